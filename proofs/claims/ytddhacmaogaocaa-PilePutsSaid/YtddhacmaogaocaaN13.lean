
/- A map's calls walked: Take, Free, Later, Commit, Copy. -/
import Derived.Test.YtddhacmaogaocaaN12
set_option maxRecDepth 10000
set_option maxRecDepth 10000
namespace Go.Proofs.Ytddhacmaogaocaa
open Go.RowKit

section
variable {w : World} {O : Nat → Prop} {g : Nat} {m : Mp}
theorem turn_no {m : Mp} {i : Int} {was now : Nat} (h : ¬ (0 ≤ i ∧ m.is was i.toNat = true)) : turnC m i was now = 72 ∧ turnM m i was now = m := by
  unfold turnC turnM Mp.turn
  rw [if_neg h]
  exact ⟨rfl, rfl⟩
theorem turn_yes {m : Mp} {i was now : Nat} (h : m.is was i = true) : turnC m i was now = 0 ∧ turnM m i was now = m.put i now := by
  unfold turnC turnM Mp.turn
  rw [if_pos ⟨by omega, h⟩]
  exact ⟨rfl, rfl⟩
theorem MapAt.put {w' : World} (h : MapAt w O g m) {i s t : Nat} (hi : m.is s i = true) (ht : t ≤ 2) (hw : w' = w.setCell ⟨g, i, none⟩ (.int .u8 ((t + 1 : Nat) : Int))) : MapAt w' O g (m.put i t) ∧ Step w w' O O := by
  obtain ⟨h4, hl, _⟩ := Mp.is_iff.1 hi
  have h10 := h.tot
  subst hw
  refine ⟨⟨?_, h.own, h.tot, fun j => ?_⟩, (Chg.refl w O).setCell (.inl ((h.own g).2 rfl)) _, fun _ hk => .inl hk⟩
  · rw [← narr_set (f := ncodeF m) (g := ncodeF (m.put i t)) (b := t + 1) i (by omega) (by rw [codeF_put ⟨h4, hl⟩, if_pos rfl]) fun n _ hn => by rw [codeF_put ⟨h4, hl⟩, if_neg hn]]
    exact h.blk.set_ i _
  · show (if j = i then t else m.st j) ≤ 2
    split
    · exact ht
    · exact h.two j
set_option maxHeartbeats 1000000 in
theorem turn_any (i : Int) (s t : Nat) (ht : t ≤ 2) (hi : I64 i) (h : MapAt w O g m) :
    Calls Try.prog 39 #[.pointer (some ⟨g, 0, none⟩), .int .i64 i, .int .u8 ((s + 1 : Nat) : Int), .int .u8 ((t + 1 : Nat) : Int)] w
      fun e w' => e = .returned (.int .i64 (turnC m i s t)) ∧ MapAt w' O g (turnM m i s t) ∧ Step w w' O O := by
  have hlt := h.blk.lt
  obtain ⟨hi1, hi2⟩ := hi
  by_cases h0 : i < 0
  · obtain ⟨e1, e2⟩ := turn_no (m := m) (i := i) (was := s) (now := t) fun hh => by omega
    rw [e1, e2]
    go_enter Try.func39, Try.ntmps39
    go_wp2_with fail
    go_ret
    exact ⟨rfl, h, step_refl _ _⟩
  · by_cases h1 : 1024 ≤ i
    · obtain ⟨e1, e2⟩ := turn_no (m := m) (i := i) (was := s) (now := t) fun hh => by
        have := (Mp.is_iff.1 hh.2).2.1
        have := h.tot
        omega
      rw [e1, e2]
      go_enter Try.func39, Try.ntmps39
      go_wp2_with fail
      go_ret
      exact ⟨rfl, h, step_refl _ _⟩
    · obtain ⟨n, rfl⟩ := Int.eq_ofNat_of_zero_le (by omega : 0 ≤ i)
      have hcell := (h.blk.cell n).trans (narr_at (ncodeF m) n (by omega))
      have hfz := h.blk.frozen n
      have hn0 : (0 : Int) ≤ n := by omega
      have hn1 : (n : Int) < 1024 := by omega
      have HC := Lib.hid (codeF_is (m := m) (i := n) (s := s))
      have HN := Lib.hid (turn_no (m := m) (i := (n : Int)) (was := s) (now := t))
      have HY := Lib.hid (turn_yes (m := m) (i := n) (was := s) (now := t))
      have HH := Lib.hid h
      clear h
      generalize ncodeF m n = x at *
      by_cases hx : x = s + 1
      · subst hx
        have hm := HC.out.1 rfl
        obtain ⟨e1, e2⟩ := HY.out hm
        rw [e1, e2]
        have HM := Lib.hid hm
        clear hm e1 e2 HY HN HC
        go_enter Try.func39, Try.ntmps39
        go_wp2_with fail
        go_ret
        exact ⟨rfl, HH.out.put HM.out ht rfl⟩
      · have hm : ¬ (m.is s n = true) := fun e => hx (HC.out.2 e)
        obtain ⟨e1, e2⟩ := HN.out fun e => hm (by simpa using e.2)
        rw [e1, e2]
        have hne : ((x : Int) != ((s + 1 : Nat) : Int)) = true := by rw [bne_iff_ne]; omega
        clear hm e1 e2 HY HN HC hx
        go_enter Try.func39, Try.ntmps39
        go_wp2_with fail
        go_ret
        exact ⟨rfl, HH.out, step_refl _ _⟩
theorem mfree_any (i : Int) (hi : I64 i) (h : MapAt w O g m) : Calls Try.prog 27 #[.pointer (some ⟨g, 0, none⟩), .int .i64 i] w fun e w' => e = .returned (.int .i64 (turnC m i 1 0)) ∧ MapAt w' O g (turnM m i 1 0) ∧ Step w w' O O := by
  have HT : Hid (Calls Try.prog 39 #[.pointer (some ⟨g, 0, none⟩), .int .i64 i, .int .u8 2, .int .u8 1] w
      fun e w' => e = .returned (.int .i64 (turnC m i 1 0)) ∧ MapAt w' O g (turnM m i 1 0) ∧ Step w w' O O) := Lib.hid (turn_any i 1 0 (by omega) hi h)
  go_enter Try.func27, Try.ntmps27
  go_wp2_with fail
  refine Calls.mono HT.out ?_
  rintro e w1 ⟨rfl, h1, s1⟩
  go_wp2_with fail
  go_ret
  exact ⟨rfl, h1, s1⟩
theorem mlater_any (i : Int) (hi : I64 i) (h : MapAt w O g m) : Calls Try.prog 28 #[.pointer (some ⟨g, 0, none⟩), .int .i64 i] w fun e w' => e = .returned (.int .i64 (turnC m i 1 2)) ∧ MapAt w' O g (turnM m i 1 2) ∧ Step w w' O O := by
  have HT : Hid (Calls Try.prog 39 #[.pointer (some ⟨g, 0, none⟩), .int .i64 i, .int .u8 2, .int .u8 3] w
      fun e w' => e = .returned (.int .i64 (turnC m i 1 2)) ∧ MapAt w' O g (turnM m i 1 2) ∧ Step w w' O O) := Lib.hid (turn_any i 1 2 (by omega) hi h)
  go_enter Try.func28, Try.ntmps28
  go_wp2_with fail
  refine Calls.mono HT.out ?_
  rintro e w1 ⟨rfl, h1, s1⟩
  go_wp2_with fail
  go_ret
  exact ⟨rfl, h1, s1⟩
def comK (m : Mp) (k j : Nat) : Nat := if j < k then ncodeF m.commit j else ncodeF m j
theorem comK_self (m : Mp) (k : Nat) : comK m k k = ncodeF m k := by unfold comK; rw [if_neg (by omega)]
theorem comK_ne {m : Mp} {k j : Nat} (hj : j ≠ k) : comK m k j = comK m (k + 1) j := by
  unfold comK
  by_cases h : j < k
  · rw [if_pos h, if_pos (by omega)]
  · rw [if_neg h, if_neg (by omega)]
theorem comK_next (m : Mp) (k : Nat) : comK m (k + 1) k = if ncodeF m k = 3 then 1 else ncodeF m k := by
  unfold comK
  rw [if_pos (by omega), codeF_commit]
set_option maxHeartbeats 1000000 in
theorem mcommit_any (h : MapAt w O g m) : Calls Try.prog 31 #[.pointer (some ⟨g, 0, none⟩)] w fun e w' => e = .returned (.tuple #[]) ∧ MapAt w' O g m.commit ∧ Step w w' O O := by
  have hO := (h.own g).2 rfl
  have HH := Lib.hid h
  go_enter Try.func31, Try.ntmps31
  go_wp2_with fail
  go_loopw [3] (fun i wr => ∃ (k : Nat), k ≤ 1024 ∧ i = .int .i64 k ∧ Blk wr g 76 (narr (comK m k)) ∧ Chg w wr O) (fun i _ => 1024 - (intOf i).toNat)
  case atStart => exact ⟨0, by omega, rfl, by rw [narr_congr (f := comK m 0) (g := ncodeF m) fun n _ => by unfold comK; rw [if_neg (by omega)]]; exact h.blk, Chg.refl _ _⟩
  case round =>
    obtain ⟨k, hk, rfl, hbl, hc⟩ := hrel
    clear h
    have hsz := hbl.lt
    by_cases hlt : k < 1024
    · have hcell := (hbl.cell k).trans (narr_at _ k hlt)
      have hfz := hbl.frozen k
      rw [comK_self] at hcell
      have hnx := comK_next m k
      have h0 : (0 : Int) ≤ k := by omega
      have h1 : (k : Int) < 1024 := by omega
      obtain ⟨x, HX⟩ : ∃ x, ncodeF m k = x := ⟨_, rfl⟩
      rw [HX] at hcell hnx
      by_cases hx : x = 3
      · subst hx
        rw [if_pos rfl] at hnx
        have HS := Lib.hid (narr_set (f := comK m k) (g := comK m (k + 1)) (b := 1) k hlt hnx fun n _ hn => comK_ne hn)
        clear hnx hk HX
        go_wp2_with fail
        go_roundw
        case rel => exact ⟨k + 1, hlt, by go_num, by rw [← HS.out]; exact hbl.set_ k _, hc.setCell (.inl hO) _⟩
        case measure => simp [intOf]; omega
      · rw [if_neg hx] at hnx
        have HS := Lib.hid (narr_congr (f := comK m (k + 1)) (g := comK m k) fun n _ => by
          by_cases hn : n = k
          · rw [hn, hnx, comK_self, HX]
          · exact (comK_ne hn).symm)
        have hne : ((x : Int) == 3) = false := by rw [beq_eq_false_iff_ne]; omega
        clear hnx hk hx HX
        go_wp2_with fail
        go_roundw
        case rel => exact ⟨k + 1, hlt, by go_num, by rw [HS.out]; exact hbl, hc⟩
        case measure => simp [intOf]; omega
    · obtain rfl : k = 1024 := by omega
      go_wp2_with fail
      refine bodyPost_end (results_none rfl _ _ _) rfl ?_
      refine ⟨rfl, ⟨?_, HH.out.own, HH.out.tot, fun j => ?_⟩, hc, fun _ hk => .inl hk⟩
      · rw [← narr_congr (f := comK m 1024) (g := ncodeF m.commit) fun n hn => by unfold comK; rw [if_pos hn]]
        exact hbl
      · have := HH.out.two j
        show (if m.st j = 2 then 0 else m.st j) ≤ 2
        split <;> omega
end
end Go.Proofs.Ytddhacmaogaocaa
