/- The laws on slabs, walked over the calls' contracts: SlabTurns. -/
import Derived.Test.YtfkffkocknbjfaaN4
import Derived.Deep.Cut
import Derived.Laws.StructEq
import Derived.Lib.SmallJoins
set_option maxRecDepth 10000
namespace Go.Proofs.Ytfkffkocknbjfaa
open Go.RowKit

theorem same_self {w : World} {A A' : Option Addr} {l : List Sp} (h : Rd w w.heap.size A (spc l)) (k : Rd w w.heap.size A' (spc l)) (hl : l.length ≤ 4503599627370496) (c c' : Nat) :
    Calls Try.prog 17 #[.slice A l.length c, .slice A' l.length c'] w fun e w' => e = .returned (.bool true) ∧ Below w.heap.size w w' := by
  have h := same_any A A' c c' l l w h k hl
  rwa [decide_eq_true rfl] at h
theorem turn_yes {m : Mp} {n was now : Nat} (h : m.is was n = true) : turnC m (n : Int) was now = 0 ∧ turnM m (n : Int) was now = m.put n now := by
  have ht : m.turn (n : Int) was now = some (m.put n now) := by
    unfold Mp.turn
    rw [Int.toNat_natCast, if_pos ⟨by omega, h⟩]
  unfold turnC turnM
  rw [ht]
  exact ⟨rfl, rfl⟩
theorem turn_cases (m : Mp) (i : Int) (was now : Nat) : (turnC m i was now = 72 ∧ turnM m i was now = m ∧ ∀ n : Nat, i = n → m.is was n = false) ∨ ∃ n : Nat, i = n ∧ m.is was n = true ∧ turnC m i was now = 0 ∧ turnM m i was now = m.put n now := by
  by_cases h : 0 ≤ i ∧ m.is was i.toNat = true
  · right
    obtain ⟨n, rfl⟩ := Int.eq_ofNat_of_zero_le h.1
    rw [Int.toNat_natCast] at h
    exact ⟨n, rfl, h.2, (turn_yes h.2).1, (turn_yes h.2).2⟩
  · left
    have ht : m.turn i was now = none := if_neg h
    unfold turnC turnM
    rw [ht]
    refine ⟨rfl, rfl, fun n e => ?_⟩
    subst e
    rw [Int.toNat_natCast] at h
    cases hi : m.is was n with
    | false => rfl
    | true => exact absurd ⟨by omega, hi⟩ h
/-- Sectors taken, one after the other, where they can be. -/
def takesF (l : List Sp) (m : Mp) : Mp := l.foldl (fun m p => turnM m p.2 0 1) m
theorem takes_step (l : List Sp) (m : Mp) (k : Nat) (hk : k < l.length) : takesF (l.take (k + 1)) m = turnM (takesF (l.take k) m) l[k].2 0 1 := by
  unfold takesF
  rw [List.take_succ_eq_append_getElem hk, List.foldl_append]
  rfl
def No2 (m : Mp) : Prop := ∀ j, m.st j ≠ 2
theorem no2_put {m : Mp} {i s : Nat} (h : No2 m) (hs : s ≠ 2) : No2 (m.put i s) := fun j => by
  show (if j = i then s else m.st j) ≠ 2
  split
  · exact hs
  · exact h j
theorem no2_turn {m : Mp} (i : Int) (h : No2 m) : No2 (turnM m i 0 1) := by
  rcases turn_cases m i 0 1 with ⟨_, e, _⟩ | ⟨n, _, _, _, e⟩
  · rw [e]; exact h
  · rw [e]; exact no2_put h (by omega)
theorem no2_takes : ∀ (l : List Sp) {m : Mp}, No2 m → No2 (takesF l m)
  | [], _, h => h
  | p :: r, m, h => no2_takes r (m := turnM m p.2 0 1) (no2_turn p.2 h)
theorem no2_new (x : Int) : No2 (newMp x) := fun _ => by show (0 : Nat) ≠ 2; omega
theorem wait_none {m : Mp} (h : No2 m) : canon (stS m 2) = [] := canon_none fun n _ _ => by
  cases hn : stS m 2 n with
  | false => rfl
  | true => exact absurd (Mp.is_iff.1 (stS_iff.1 hn).2).2.2 (h _)
section
variable {At : World → (Nat → Prop) → Nat → Mp → Prop}
set_option maxHeartbeats 4000000 in
theorem slabTurns_any (L : SlabCalls At) (w : World) (x0 : Int) (hx0 : I64 x0) (A1 : Option Addr) (c1 : Nat) (l1 : List Sp) (hR1 : Rd w w.heap.size A1 (spc l1)) (hO1 : SpOk l1) (x2 : Int) (hx2 : I64 x2) :
    Calls Try.prog 6 #[.int .i64 x0, .slice A1 l1.length c1, .int .i64 x2] w fun e w' => e = .returned (.bool true) ∧ Below w.heap.size w w' := by
  have HR1 := Lib.hid hR1
  have HO1 := Lib.hid hO1
  have HX := Lib.hid (And.intro hx0 hx2)
  clear hR1 hO1 hx0 hx2
  go_enter Try.func6, Try.ntmps6
  go_wp2_with fail
  refine Calls.mono (slabAlive_any L _) ?_
  rintro e w1 ⟨rfl, hb1⟩
  go_wp2_with fail
  refine Calls.mono (L.new x0 w1 HX.out.1) ?_
  rintro e w2 ⟨O2, g, rfl, h2, hO2, hb2⟩
  have m2 := Has.first hb1 h2 hO2 hb2
  have hn2 := no2_new x0
  clear h2 hO2 hb2 hb1
  generalize newMp x0 = m0 at *
  by_cases h1 : l1.length ≤ 100
  · have h1i : ¬ (100 : Int) < l1.length := by omega
    have M2 := Lib.hid m2
    have HL := Lib.hid h1
    have HN2 := Lib.hid (no2_takes l1 hn2)
    clear h1 m2 hn2
    go_upto_region 7 with fail
    go_loopw [28] (fun i wr => ∃ (k : Nat) (O : Nat → Prop), k ≤ l1.length ∧ i = .int .i64 k ∧ Has At w wr O g (takesF (l1.take k) m0)) (fun i _ => l1.length - (intOf i).toNat)
    case atStart => exact ⟨0, O2, Nat.zero_le _, rfl, M2.out⟩
    case round =>
      clear M2
      obtain ⟨k, O, hk, rfl, hH⟩ := hrel
      have HH := Lib.hid hH
      clear hH
      by_cases hlt : k < l1.length
      · have hki : (k : Int) < l1.length := by omega
        obtain ⟨b, off, rfl, hbl, hc1, hc2⟩ := sp_at HR1.out k hlt
        have hc1 := (HH.out.below.cell (p := ⟨b, off + k * 2, none⟩) hbl).trans hc1
        have hc2 := (HH.out.below.cell (p := ⟨b, off + k * 2 + 1, none⟩) hbl).trans hc2
        have HS := Lib.hid (takes_step l1 m0 k hlt)
        have HI := Lib.hid (HO1.out _ (List.getElem_mem hlt)).2
        have HK := Lib.hid hlt
        generalize l1[k].1 = kd at *
        generalize l1[k].2 = nn at *
        clear hlt hk hbl
        go_upto_region 9 with fail
        have H6 := Lib.hid (HH.out.far L ((Below.refl _ _).alloc (Nat.le_refl _) (.cells #[.int .i64 kd, .int .i64 nn] 31)))
        have d2 : (wr.alloc (.cells #[.int .i64 kd, .int .i64 nn] 31)).cell? ⟨wr.heap.size, 1, none⟩ = some (.int .i64 nn) := (Blk.new wr _ _).cell 1
        clear hc1 hc2 HH
        generalize wr.alloc (.cells #[.int .i64 kd, .int .i64 nn] 31) = w6 at *
        generalize wr.heap.size = g6 at *
        have HT := Lib.hid (L.take nn HI.out H6.out.at_)
        go_wp2_with (go_at_call 20; refine Calls.mono HT.out ?_; rintro e w7 ⟨O7, rfl, h7, s7⟩; have H7 := Lib.hid (H6.out.step h7 s7); clear h7 s7)
        go_roundw
        case rel => exact ⟨k + 1, O7, HK.out, by go_num, by rw [HS.out]; exact H7.out⟩
        case measure => have := HK.out; simp [intOf]; omega
      · obtain rfl : k = l1.length := by omega
        rw [List.take_of_length_le (Nat.le_refl _)] at HH
        generalize takesF l1 m0 = m at *
        clear hk hlt
        have M := HH
        clear HH
        have HSM := Lib.hid (L.small M.out.at_)
        rcases turn_cases m x2 0 1 with ⟨e1, e2, _⟩ | ⟨n, rfl, hn, e1, e2⟩
        · have E := Lib.hid (And.intro e1 e2)
          clear e1 e2
          have hk := L.taken M.out.at_
          have HK := Lib.hid hk
          clear hk
          go_wp2_with fail
          refine Calls.mono HK.out ?_
          rintro e w' ⟨O', A', c', rfl, h', r', s'⟩
          have M := Lib.hid (M.out.step h' s')
          have R := Lib.hid r'
          clear HK h' s' r'
          have hk := L.count M.out.at_
          have HK := Lib.hid hk
          clear hk
          go_wp2_with fail
          refine Calls.mono HK.out ?_
          rintro e w' ⟨O', rfl, h', s'⟩
          have M := Lib.hid (M.out.step h' s')
          have R := Lib.hid (R.out.step s')
          clear HK h' s'
          have hk := L.take x2 HX.out.2 M.out.at_
          rw [E.out.1] at hk
          rw [E.out.2] at hk
          have HK := Lib.hid hk
          clear hk
          go_wp2_with fail
          refine Calls.mono HK.out ?_
          rintro e w' ⟨O', rfl, h', s'⟩
          have M := Lib.hid (M.out.step h' s')
          have R := Lib.hid (R.out.step s')
          clear HK h' s'
          have hk := L.count M.out.at_
          have HK := Lib.hid hk
          clear hk
          go_wp2_with fail
          refine Calls.mono HK.out ?_
          rintro e w' ⟨O', rfl, h', s'⟩
          have M := Lib.hid (M.out.step h' s')
          have R := Lib.hid (R.out.step s')
          clear HK h' s'
          have hk := L.taken M.out.at_
          have HK := Lib.hid hk
          clear hk
          go_wp2_with fail
          refine Calls.mono HK.out ?_
          rintro e w' ⟨O', A', c', rfl, h', r', s'⟩
          have M := Lib.hid (M.out.step h' s')
          have R := Lib.hid (R.out.step s')
          have RB := Lib.hid r'
          clear HK h' s' r'
          have hk := same_self RB.out.rd R.out.rd (by have := len_le (canon_right (stS m 1)); omega)
          have HK := Lib.hid hk
          clear hk
          go_wp2_with fail
          refine Calls.mono (HK.out _ _) ?_
          rintro e w' ⟨rfl, hb'⟩
          have M := Lib.hid (M.out.far L hb')
          have R := Lib.hid (R.out.far hb')
          clear HK hb' RB
          go_wp2_with fail
          go_ret
          exact ⟨by simp, M.out.below⟩
        · obtain ⟨g1, g2, g3⟩ := Mp.is_iff.1 hn
          have hi : n < 1024 := by have := HSM.out.1; omega
          have hk1 := count_take hn hi (s := 1) (by omega)
          have hk2 := count_take hn hi (s := 2) (by omega)
          obtain ⟨cc, hcc⟩ : ∃ cc, (m.put n 1).count = cc := ⟨_, rfl⟩
          have K1 := Lib.hid (show m.count = cc + 1 by omega)
          have K2 := Lib.hid hcc
          have K3 := Lib.hid (show (m.put n 2).count = cc by omega)
          have hcb : (cc : Int) ≤ 1024 := by have := count_le m; omega
          have hi1 : (m.put n 1).is 1 n = true := Mp.is_iff.2 ⟨g1, g2, if_pos rfl⟩
          have p1 := turn_yes hi1 (now := 0)
          rw [put_put g3] at p1
          have p2 := turn_yes hi1 (now := 2)
          rw [put_same] at p2
          have E := Lib.hid (And.intro e1 e2)
          have T2 := Lib.hid p1
          have T3 := Lib.hid p2
          have T4 := Lib.hid (commit_one g3 HN2.out)
          have T5 := Lib.hid (wait_one g1 g2 HSM.out.1 HN2.out)
          have T6 := Lib.hid (wait_none HN2.out)
          clear e1 e2 g1 g2 g3 hi hk1 hk2 hcc hi1 p1 p2 hn
          have hk := L.taken M.out.at_
          have HK := Lib.hid hk
          clear hk
          go_wp2_with fail
          refine Calls.mono HK.out ?_
          rintro e w' ⟨O', A', c', rfl, h', r', s'⟩
          have M := Lib.hid (M.out.step h' s')
          have R := Lib.hid r'
          clear HK h' s' r'
          have hk := L.count M.out.at_
          rw [K1.out] at hk
          have HK := Lib.hid hk
          clear hk
          go_wp2_with fail
          refine Calls.mono HK.out ?_
          rintro e w' ⟨O', rfl, h', s'⟩
          have M := Lib.hid (M.out.step h' s')
          have R := Lib.hid (R.out.step s')
          clear HK h' s'
          have hk := L.take (n : Int) HX.out.2 M.out.at_
          rw [E.out.1] at hk
          rw [E.out.2] at hk
          have HK := Lib.hid hk
          clear hk
          go_wp2_with fail
          refine Calls.mono HK.out ?_
          rintro e w' ⟨O', rfl, h', s'⟩
          have M := Lib.hid (M.out.step h' s')
          have R := Lib.hid (R.out.step s')
          clear HK h' s'
          have hk := L.count M.out.at_
          rw [K2.out] at hk
          have HK := Lib.hid hk
          clear hk
          go_wp2_with fail
          refine Calls.mono HK.out ?_
          rintro e w' ⟨O', rfl, h', s'⟩
          have M := Lib.hid (M.out.step h' s')
          have R := Lib.hid (R.out.step s')
          clear HK h' s'
          have hk := L.free (n : Int) HX.out.2 M.out.at_
          rw [T2.out.1] at hk
          rw [T2.out.2] at hk
          have HK := Lib.hid hk
          clear hk
          go_wp2_with fail
          refine Calls.mono HK.out ?_
          rintro e w' ⟨O', rfl, h', s'⟩
          have M := Lib.hid (M.out.step h' s')
          have R := Lib.hid (R.out.step s')
          clear HK h' s'
          have hk := L.count M.out.at_
          rw [K1.out] at hk
          have HK := Lib.hid hk
          clear hk
          go_wp2_with fail
          refine Calls.mono HK.out ?_
          rintro e w' ⟨O', rfl, h', s'⟩
          have M := Lib.hid (M.out.step h' s')
          have R := Lib.hid (R.out.step s')
          clear HK h' s'
          have hk := L.taken M.out.at_
          have HK := Lib.hid hk
          clear hk
          go_wp2_with fail
          refine Calls.mono HK.out ?_
          rintro e w' ⟨O', A', c', rfl, h', r', s'⟩
          have M := Lib.hid (M.out.step h' s')
          have R := Lib.hid (R.out.step s')
          have RB := Lib.hid r'
          clear HK h' s' r'
          have hk := same_self RB.out.rd R.out.rd (by have := len_le (canon_right (stS m 1)); omega)
          have HK := Lib.hid hk
          clear hk
          go_wp2_with fail
          refine Calls.mono (HK.out _ _) ?_
          rintro e w' ⟨rfl, hb'⟩
          have M := Lib.hid (M.out.far L hb')
          have R := Lib.hid (R.out.far hb')
          clear HK hb' RB
          have hk := L.take (n : Int) HX.out.2 M.out.at_
          rw [E.out.1] at hk
          rw [E.out.2] at hk
          have HK := Lib.hid hk
          clear hk
          go_wp2_with fail
          refine Calls.mono HK.out ?_
          rintro e w' ⟨O', rfl, h', s'⟩
          have M := Lib.hid (M.out.step h' s')
          have R := Lib.hid (R.out.step s')
          clear HK h' s'
          have hk := L.later (n : Int) HX.out.2 M.out.at_
          rw [T3.out.1] at hk
          rw [T3.out.2] at hk
          have HK := Lib.hid hk
          clear hk
          go_wp2_with fail
          refine Calls.mono HK.out ?_
          rintro e w' ⟨O', rfl, h', s'⟩
          have M := Lib.hid (M.out.step h' s')
          have R := Lib.hid (R.out.step s')
          clear HK h' s'
          have hk := L.count M.out.at_
          rw [K3.out] at hk
          have HK := Lib.hid hk
          clear hk
          go_wp2_with fail
          refine Calls.mono HK.out ?_
          rintro e w' ⟨O', rfl, h', s'⟩
          have M := Lib.hid (M.out.step h' s')
          have R := Lib.hid (R.out.step s')
          clear HK h' s'
          have hk := L.waiting M.out.at_
          rw [T5.out] at hk
          have HK := Lib.hid hk
          clear hk
          go_wp2_with fail
          refine Calls.mono HK.out ?_
          rintro e w' ⟨O', A', c', rfl, h', r', s'⟩
          have M := Lib.hid (M.out.step h' s')
          have R := Lib.hid (R.out.step s')
          clear HK h' s' r'
          have hk := L.commit M.out.at_
          rw [T4.out] at hk
          have HK := Lib.hid hk
          clear hk
          go_wp2_with fail
          refine Calls.mono HK.out ?_
          rintro e w' ⟨O', rfl, h', s'⟩
          have M := Lib.hid (M.out.step h' s')
          have R := Lib.hid (R.out.step s')
          clear HK h' s'
          have hk := L.count M.out.at_
          rw [K1.out] at hk
          have HK := Lib.hid hk
          clear hk
          go_wp2_with fail
          refine Calls.mono HK.out ?_
          rintro e w' ⟨O', rfl, h', s'⟩
          have M := Lib.hid (M.out.step h' s')
          have R := Lib.hid (R.out.step s')
          clear HK h' s'
          have hk := L.taken M.out.at_
          have HK := Lib.hid hk
          clear hk
          go_wp2_with fail
          refine Calls.mono HK.out ?_
          rintro e w' ⟨O', A', c', rfl, h', r', s'⟩
          have M := Lib.hid (M.out.step h' s')
          have R := Lib.hid (R.out.step s')
          have RB := Lib.hid r'
          clear HK h' s' r'
          have hk := same_self RB.out.rd R.out.rd (by have := len_le (canon_right (stS m 1)); omega)
          have HK := Lib.hid hk
          clear hk
          go_wp2_with fail
          refine Calls.mono (HK.out _ _) ?_
          rintro e w' ⟨rfl, hb'⟩
          have M := Lib.hid (M.out.far L hb')
          have R := Lib.hid (R.out.far hb')
          clear HK hb' RB
          have hk := L.waiting M.out.at_
          rw [T6.out] at hk
          have HK := Lib.hid hk
          clear hk
          go_wp2_with fail
          refine Calls.mono HK.out ?_
          rintro e w' ⟨O', A', c', rfl, h', r', s'⟩
          have M := Lib.hid (M.out.step h' s')
          have R := Lib.hid (R.out.step s')
          clear HK h' s' r'
          go_wp2_with fail
          go_ret
          exact ⟨by simp, M.out.below⟩
  · have h1i : (100 : Int) < l1.length := by omega
    clear h1
    go_wp2_with fail
    go_ret
    exact ⟨rfl, m2.below⟩
end
end Go.Proofs.Ytfkffkocknbjfaa
