/- The program's right, turn, spans, all. -/
import Derived.Test.YtklccgmhllpjkaaJ8
import Derived.Test.YtklccgmhllpjkaaW9
set_option maxRecDepth 10000
namespace Go.Proofs.Ytklccgmhllpjkaa
open Go.RowKit

theorem pright_any (m : Mv) (hm : m.ok) (w : World) : Calls Try.prog 25 #[.agg m.cs.toArray] w fun e w' => e = .returned (.bool (rightM m)) ∧ Below w.heap.size w w' := by
  obtain ⟨_, c1, c2⟩ := (Blk.new w 54 m.cs.toArray).mvF
  have HB := Lib.hid (show Below w.heap.size w ((w.alloc (.cells m.cs.toArray 54)).alloc (.cells #[.int .i64 m.s, .int .i64 m.n] 52)) from ((Below.refl _ _).alloc (Nat.le_refl _) _).alloc (by simp) _)
  have hr := rd_new (w.alloc (.cells m.cs.toArray 54)) #[.int .i64 m.s, .int .i64 m.n] 52
  rw [show (w.alloc (.cells m.cs.toArray 54)).heap.size = w.heap.size + 1 by simp] at hr
  have HR := Lib.hid (right_any (some ⟨w.heap.size + 1, 0, none⟩) 1 [(m.s, m.n)] _ hr (by intro p hp; simp only [List.mem_cons, List.not_mem_nil, or_false] at hp; subst hp; exact hm) (by simp))
  clear hr
  go_enter Try.func25, Try.ntmps25
  go_wp2_with (go_at_call 23; refine Calls.mono HR.out ?_; rintro e w1 ⟨rfl, hb1⟩; have HB1 := Lib.hid (HB.out.trans (hb1.mono HB.out.size)); clear hb1)
  go_ret
  exact ⟨rfl, HB1.out⟩

def flagN (t : Bool) : Nat := if t then 1 else 0
theorem flag_any (t : Bool) (w : World) : Calls Try.prog 36 #[.bool t] w fun e w' => e = .returned (.int .u64 (flagN t : Int)) ∧ w' = w := by
  cases t with
  | true =>
    go_enter Try.func36, Try.ntmps36
    go_wp2_with fail
    go_ret
    exact ⟨rfl, rfl⟩
  | false =>
    go_enter Try.func36, Try.ntmps36
    go_wp2_with fail
    go_ret
    exact ⟨rfl, rfl⟩
def ws5 : List Int := [1, 2, 2]
theorem widths_any (w : World) : Calls Try.prog 35 #[] w fun e w' => ∃ g, e = .returned (.slice (some ⟨g, 0, none⟩) 3 3) ∧ Rd w' w'.heap.size (some ⟨g, 0, none⟩) (wds ws5) ∧ Below w.heap.size w w' := by
  have hr := Lib.hid (rd_new w #[.int .i64 1, .int .i64 2, .int .i64 2] 3)
  have hb := Lib.hid (show Below w.heap.size w (w.alloc (.cells #[.int .i64 1, .int .i64 2, .int .i64 2] 3)) from (Below.refl _ _).alloc (Nat.le_refl _) _)
  go_enter Try.func35, Try.ntmps35
  go_wp2_with fail
  go_ret
  exact ⟨_, rfl, hr.out, hb.out⟩

/-! ### Numbers turned -/
/-- What stands while numbers turn. -/
structure TInv (w wr : World) (g : Nat) (S : Int → Bool) : Prop where
  bits : Blk wr g 48 (barr S)
  chg : Chg w wr (· = g)
set_option maxHeartbeats 1000000 in
theorem turn_any (g s n cp : Nat) (hs : (s : Int) ≤ 4096) (hn : (s : Int) + n ≤ 4096) (t : Bool) (S : Int → Bool) (w : World) (hb : Blk w g 48 (barr S)) :
    Calls Try.prog 26 #[.slice (some ⟨g, s, none⟩) n cp, .bool t] w fun e w' => e = .returned (.bool (fitM ⟨t, s, n⟩ S)) ∧ (fitM ⟨t, s, n⟩ S = true → Blk w' g 48 (barr (setM ⟨t, s, n⟩ S))) ∧ Chg w w' (· = g) := by
  have HB := Lib.hid hb
  have hn4 : (n : Int) ≤ 4096 := by omega
  have HN := Lib.hid hn
  clear hb hn
  go_enter Try.func26, Try.ntmps26
  go_wp2_with fail
  go_loopw [8] (fun i wr => ∃ (q : Nat), (q : Int) ≤ n ∧ i = .int .i64 (q : Int) ∧ TInv w wr g (midM ⟨t, s, n⟩ S q) ∧ ∀ j : Nat, j < q → S ((s : Int) + j) ≠ t) (fun i _ => n - (intOf i).toNat)
  case atStart => exact ⟨0, by omega, rfl, ⟨by rw [mid_zero]; exact HB.out, Chg.refl _ _⟩, fun j hj => by omega⟩
  case round =>
    clear HB
    obtain ⟨q, hq, rfl, hP, hA⟩ := hrel
    have HP := Lib.hid hP
    have HA := Lib.hid hA
    clear hP hA
    by_cases hlt : (q : Int) < n
    · have hcell : wr.cell? ⟨g, s + q, none⟩ = some (.bool (S ((s : Int) + q))) := (HP.out.bits.cell (s + q)).trans ((barr_at _ (s + q) (by have := HN.out; omega)).trans (by
        unfold midM
        rw [if_neg (by simp only; omega)]
        congr 2))
      have hfz := HP.out.bits.frozen (s + q)
      have hsz := HP.out.bits.lt
      have HQ := Lib.hid hlt
      have HFQ := Lib.hid (fun h : S ((s : Int) + q) = t => show fitM ⟨t, s, n⟩ S = false from (by
        rw [Bool.eq_false_iff]
        exact fun hf => fit_iff.1 hf ((s : Int) + q) (by simp only; omega) (by simp only; omega) h))
      have HST : Hid ((barr (midM ⟨t, s, n⟩ S q)).setIfInBounds (s + q) (.bool t) = barr (midM ⟨t, s, n⟩ S (q + 1))) := barr_set (s + q) (by have := HN.out; omega) (by unfold midM; rw [if_pos (by simp only; omega)]) (fun x _ _ hx => by
        unfold midM
        by_cases hc : (s : Int) ≤ x ∧ x < s + (q : Nat)
        · rw [if_pos hc, if_pos (by simp only; omega)]
        · rw [if_neg hc, if_neg (by simp only; omega)])
      have HNX : Hid (S ((s : Int) + q) ≠ t → ∀ j : Nat, j < q + 1 → S ((s : Int) + j) ≠ t) := fun h j hj => by
        rcases Nat.lt_or_ge j q with hj' | hj'
        · exact HA.out j hj'
        · obtain rfl : j = q := by omega
          exact h
      clear HA HN
      generalize S ((s : Int) + q) = b at *
      clear hq
      by_cases hbt : b = t
      · subst hbt
        have HF := Lib.hid (HFQ.out rfl)
        clear HFQ HNX HST
        cases b <;>
        · go_wp2_with fail
          go_ret
          exact ⟨ret_bool HF.out.symm, ⟨(fun h => by rw [HF.out] at h; cases h), HP.out.chg⟩⟩
      · have HX := Lib.hid (HNX.out hbt)
        clear HFQ HNX
        have hbb : b = !t := by cases b <;> cases t <;> simp_all
        subst hbb
        clear hbt
        cases t <;>
        · go_wp2_with fail
          go_roundw
          case rel => exact ⟨q + 1, by have := HQ.out; omega, by go_num, ⟨by rw [← HST.out]; exact HP.out.bits.set_ _ _, HP.out.chg.setCell (.inl rfl) _⟩, HX.out⟩
          case measure => have := HQ.out; simp [intOf]; omega
    · obtain rfl : q = n := by omega
      rw [mid_all _ _ _ rfl] at HP
      have HF : Hid (fitM ⟨t, s, q⟩ S = true) := fit_iff.2 fun x h1 h2 => by
        have := HA.out (x - s).toNat (by simp only at h1 h2; omega)
        rwa [show (s : Int) + ((x - s).toNat : Int) = x by simp only at h1; omega] at this
      clear hq hlt HA
      go_wp2_with fail
      go_ret
      exact ⟨ret_bool HF.out.symm, ⟨(fun _ => HP.out.bits), HP.out.chg⟩⟩

/-! ### The set of what is in it -/
theorem canon_nums (S : Int → Bool) : canon (inI (numsTo S 4096)) = canon S := canon_congr fun n h1 h2 => by
  rw [Bool.eq_iff_iff]
  unfold inI
  rw [decide_eq_true_iff, mem_numsTo]
  exact ⟨fun h => h.2.2, fun h => ⟨h1, by omega, h⟩⟩
end Go.Proofs.Ytklccgmhllpjkaa
