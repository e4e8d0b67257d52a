/- The laws on logs, walked over the calls' contracts: SlogParts. -/
import Derived.Test.YtklccgmhllpjkaaJ10
set_option maxRecDepth 10000
namespace Go.Proofs.Ytklccgmhllpjkaa
open Go.RowKit

theorem mvs_take (l : List Mv) : ∀ k, (mvs l).take (k * 3) = mvs (l.take k) := by
  induction l with
  | nil => intro k; simp [mvs]
  | cons m r ih =>
    intro k
    cases k with
    | zero => simp [mvs]
    | succ k =>
      show (m.cs ++ mvs r).take ((k + 1) * 3) = m.cs ++ mvs (r.take k)
      rw [List.take_append, m.cs_len, show (k + 1) * 3 - 3 = k * 3 by omega, List.take_of_length_le (by rw [m.cs_len]; omega), ih]
theorem mvs_drop (l : List Mv) : ∀ k, (mvs l).drop (k * 3) = mvs (l.drop k) := by
  induction l with
  | nil => intro k; simp [mvs]
  | cons m r ih =>
    intro k
    cases k with
    | zero => simp [mvs]
    | succ k =>
      show (m.cs ++ mvs r).drop ((k + 1) * 3) = mvs (r.drop k)
      rw [List.drop_append, m.cs_len, show (k + 1) * 3 - 3 = k * 3 by omega, List.drop_eq_nil_of_le (by rw [m.cs_len]; omega), List.nil_append, ih]
section
variable {w : World} {A : Option Addr} {c : Nat} {l : List Mv}
theorem MvL.take (h : MvL w A c l) (k : Nat) (hk : k ≤ l.length) : MvL w A c (l.take k) :=
  ⟨by rw [← mvs_take]; exact h.rd.take _, fun m hm => h.ok m (List.mem_of_mem_take hm), by rw [List.length_take]; have := h.cap; omega, by rw [List.length_take]; have := h.len; omega⟩
theorem MvL.drop {b off : Nat} (h : MvL w (some ⟨b, off, none⟩) c l) (k : Nat) (hk : k ≤ l.length) : MvL w (some ⟨b, off + k * 3, none⟩) (c - k) (l.drop k) :=
  ⟨by rw [← mvs_drop]; exact h.rd.drop, fun m hm => h.ok m (List.mem_of_mem_drop hm), by rw [List.length_drop]; have := h.cap; omega, by rw [List.length_drop]; have := h.len; omega⟩
theorem MvL.none (A : Option Addr) (c : Nat) : MvL w A c [] := ⟨Rd.nil, (fun _ h => by cases h), by simp, by simp⟩
end
/-- Replay of what stands behind the first k moves, however the slice of them lies. -/
theorem parts_case {w : World} {A : Option Addr} {c : Nat} {l : List Mv} (h : MvL w A c l) (k : Nat) (hk : k ≤ l.length) (hN : A = none → c = 0) :
    (∃ b off, A = some ⟨b, off, none⟩ ∧ c ≠ k ∧ MvL w (some ⟨b, off + k * 3, none⟩) (c - k) (l.drop k)) ∨ (l.drop k = [] ∧ l.length = k ∧ (A = none → c = 0)) := by
  by_cases hd : k = l.length
  · subst hd
    exact .inr ⟨List.drop_length, rfl, hN⟩
  · left
    obtain ⟨b, off, e, _⟩ := h.rd (by rw [mvs_len]; omega)
    subst e
    exact ⟨b, off, rfl, by have := h.cap; omega, h.drop k hk⟩
set_option maxHeartbeats 2000000 in
theorem slogParts_any (L : LogCalls) (w : World) (A0 : Option Addr) (c0 : Nat) (l0 : List Sp) (hR0 : Rd w w.heap.size A0 (spc l0)) (hO0 : SpOk l0) (hc0 : l0.length ≤ c0) (_hN0 : A0 = none → c0 = 0) (hL0 : l0.length * 16 ≤ 140737488351232)
    (A1 : Option Addr) (c1 : Nat) (l1 : List Mv) (hR1 : Rd w w.heap.size A1 (mvs l1)) (hO1 : MvOk l1) (hc1 : l1.length ≤ c1) (hN1 : A1 = none → c1 = 0) (_hL1 : l1.length * 24 ≤ 140737488351232) (x : Int) :
    Calls Try.prog 8 #[.slice A0 l0.length c0, .slice A1 l1.length c1, .int .i64 x] w fun e w' => e = .returned (.bool true) ∧ Below w.heap.size w w' := by
  have H0 := Lib.hid (SpL.mk hR0 hO0 hc0 (by omega))
  have H1 := Lib.hid (fun h => MvL.mk hR1 hO1 hc1 h)
  have HN := Lib.hid hN1
  have HC := Lib.hid hc1
  clear hR0 hO0 hc0 hL0 hR1 hO1 hN1 hc1
  go_enter Try.func8, Try.ntmps8
  go_wp2_with fail
  refine Calls.mono (slogAlive_any L _) ?_
  rintro e w1 ⟨rfl, hb1⟩
  have hr := right_call (H0.out.later hb1)
  cases h0 : rightF 0 l0 with
  | false =>
    rw [h0] at hr
    have HR := Lib.hid hr
    clear hr h0
    go_wp2_with fail
    refine Calls.mono HR.out ?_
    rintro e w2 ⟨rfl, hb2⟩
    go_wp2_with fail
    go_ret
    exact ⟨rfl, below_next hb1 hb2⟩
  | true =>
    rw [h0] at hr
    have HR := Lib.hid hr
    clear hr h0
    go_wp2_with fail
    refine Calls.mono HR.out ?_
    rintro e w2 ⟨rfl, hb2⟩
    have t2 := below_next hb1 hb2
    clear hb1 hb2 HR
    by_cases h2 : l1.length ≤ 200
    · have h2i : ¬ (200 : Int) < l1.length := by omega
      have H1 := Lib.hid (H1.out (by omega))
      by_cases hx0 : x < 0
      · clear h2
        go_wp2_with fail
        go_ret
        exact ⟨rfl, t2⟩
      · by_cases hx1 : (l1.length : Int) < x
        · clear h2
          go_wp2_with fail
          go_ret
          exact ⟨rfl, t2⟩
        · obtain ⟨k, rfl⟩ := Int.eq_ofNat_of_zero_le (show 0 ≤ x by omega)
          have hk : k ≤ l1.length := by omega
          have HK := Lib.hid hk
          have hkc : (k : Int) ≤ c1 := by have := HC.out; omega
          clear h2
          have HP1 := Lib.hid (rep_call L (H0.out.later t2) (H1.out.later t2))
          go_wp2_with fail
          refine Calls.mono HP1.out ?_
          rintro e w3 ⟨B3, d3, rfl, r3, hb3⟩
          have t3 := below_next t2 hb3
          have hp := rep_call L (H0.out.later t3) ((H1.out.later t3).take k hk)
          rw [List.length_take, Nat.min_eq_left hk] at hp
          have HP2 := Lib.hid hp
          clear hp HP1
          go_wp2_with fail
          refine Calls.mono HP2.out ?_
          rintro e w4 ⟨B4, d4, rfl, r4, hb4⟩
          have t4 := below_next t3 hb4
          have r3 := Lib.hid (r3.later hb4)
          have r4 := Lib.hid r4
          have t4 := Lib.hid t4
          clear HP2 t3 hb3 hb4 t2
          cases ho : repF l0 (l1.take k) with
          | none =>
            have he := repF_parts_none (l1.drop k) ho
            rw [List.take_append_drop] at he
            rw [he] at r3 ⊢
            rw [ho] at r4
            have e1 : repC (Option.none : Option (Int → Bool)) = 81 := rfl
            have e2 : repL (Option.none : Option (Int → Bool)) = [] := rfl
            rw [e1, e2]
            clear ho he e1 e2
            go_wp2_with fail
            go_ret
            exact ⟨rfl, t4.out⟩
          | some S =>
            obtain ⟨he1, he2⟩ := repF_parts (l1.drop k) ho
            rw [List.take_append_drop] at he1 he2
            rw [he1] at r3
            rw [he1, he2]
            rw [ho] at r4
            have e1 : repC (some S) = 0 := rfl
            have e2 : repL (some S) = canon S := rfl
            rw [e1, e2]
            rw [e2] at r4
            clear ho he1 he2 e1 e2
            generalize canon S = s at *
            rcases parts_case (H1.out.later t4.out) k HK.out HN.out with ⟨b, off, rfl, hck, m4⟩ | ⟨hd, hlen, hA⟩
            · have HP := Lib.hid (rep_call L r4.out m4)
              rw [List.length_drop] at HP
              have hsub : ((l1.length : Int) - k).toNat = l1.length - k := by omega
              clear m4
              go_wp2_with fail
              refine Calls.mono HP.out ?_
              rintro e w5 ⟨B5, d5, rfl, r5, hb5⟩
              have t5 := below_next t4.out hb5
              have hs := ssame_call (r3.out.later hb5) r5
              rw [decide_eq_true rfl] at hs
              have HS := Lib.hid hs
              have hcode : (repC (repF s (l1.drop k)) == repC (repF s (l1.drop k))) = true := by simp
              clear hs HP r5 r3
              go_wp2_with fail
              refine Calls.mono HS.out ?_
              rintro e w6 ⟨rfl, hb6⟩
              go_wp2_with fail
              go_ret
              exact ⟨rfl, below_next t5 hb6⟩
            · have HP := Lib.hid (fun A c => rep_call L r4.out (MvL.none A c))
              have HP : Hid (∀ A c, Calls Try.prog 10 #[.slice B4 s.length d4, .slice A 0 c] w4 fun e w' => ∃ B d, e = .returned (.tuple #[.slice B (repL (repF s [])).length d, .int .i64 (repC (repF s []))]) ∧ SpL w' B d (repL (repF s [])) ∧ Below w4.heap.size w4 w') := HP
              rw [hd] at r3 ⊢
              have hz : ((l1.length : Int) - k).toNat = 0 := by omega
              have hz2 : l1.length - k = 0 := by omega
              rcases A1 with _ | ad
              · obtain rfl := hA rfl
                obtain rfl : k = 0 := by omega
                clear hd hA
                go_wp2_with fail
                refine Calls.mono (HP.out _ _) ?_
                rintro e w5 ⟨B5, d5, rfl, r5, hb5⟩
                have t5 := below_next t4.out hb5
                have hs := ssame_call (r3.out.later hb5) r5
                rw [decide_eq_true rfl] at hs
                have HS := Lib.hid hs
                have hcode : (repC (repF s ([] : List Mv)) == repC (repF s ([] : List Mv))) = true := by simp
                clear hs HP r5 r3
                go_wp2_with fail
                refine Calls.mono HS.out ?_
                rintro e w6 ⟨rfl, hb6⟩
                go_wp2_with fail
                go_ret
                exact ⟨rfl, below_next t5 hb6⟩
              · by_cases hc : c1 = k
                · subst hc
                  clear hd hA
                  go_wp2_with fail
                  refine Calls.mono (HP.out _ _) ?_
                  rintro e w5 ⟨B5, d5, rfl, r5, hb5⟩
                  have t5 := below_next t4.out hb5
                  have hs := ssame_call (r3.out.later hb5) r5
                  rw [decide_eq_true rfl] at hs
                  have HS := Lib.hid hs
                  have hcode : (repC (repF s ([] : List Mv)) == repC (repF s ([] : List Mv))) = true := by simp
                  clear hs HP r5 r3
                  go_wp2_with fail
                  refine Calls.mono HS.out ?_
                  rintro e w6 ⟨rfl, hb6⟩
                  go_wp2_with fail
                  go_ret
                  exact ⟨rfl, below_next t5 hb6⟩
                · clear hd hA
                  go_wp2_with fail
                  refine Calls.mono (HP.out _ _) ?_
                  rintro e w5 ⟨B5, d5, rfl, r5, hb5⟩
                  have t5 := below_next t4.out hb5
                  have hs := ssame_call (r3.out.later hb5) r5
                  rw [decide_eq_true rfl] at hs
                  have HS := Lib.hid hs
                  have hcode : (repC (repF s ([] : List Mv)) == repC (repF s ([] : List Mv))) = true := by simp
                  clear hs HP r5 r3
                  go_wp2_with fail
                  refine Calls.mono HS.out ?_
                  rintro e w6 ⟨rfl, hb6⟩
                  go_wp2_with fail
                  go_ret
                  exact ⟨rfl, below_next t5 hb6⟩
    · have h2i : (200 : Int) < l1.length := by omega
      clear h2
      go_wp2_with fail
      go_ret
      exact ⟨rfl, t2⟩
end Go.Proofs.Ytklccgmhllpjkaa
