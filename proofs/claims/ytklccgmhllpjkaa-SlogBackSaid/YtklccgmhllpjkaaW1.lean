
/- Walks: the calls on spans that only read. -/
import Derived.Test.YtklccgmhllpjkaaP
import Derived.Deep.QuietTactic
import Derived.BigQuiet
set_option maxRecDepth 10000
namespace Go.Proofs.Ytklccgmhllpjkaa
open Go.RowKit

theorem sp_at {w : World} {B : Nat} {A : Option Addr} {l : List Sp} (h : Rd w B A (spc l)) (k : Nat) (hk : k < l.length) :
    ∃ b off, A = some ⟨b, off, none⟩ ∧ b < B ∧ w.cell? ⟨b, off + k * 2, none⟩ = some (.int .i64 l[k].1) ∧ w.cell? ⟨b, off + k * 2 + 1, none⟩ = some (.int .i64 l[k].2) := by
  obtain ⟨h1, h2⟩ := spc_at l k hk
  obtain ⟨b, off, rfl, hl, hc⟩ := h (by rw [spc_len]; omega)
  exact ⟨b, off, rfl, hl, hc _ _ h1, hc _ _ h2⟩

set_option maxHeartbeats 400000 in
theorem end_any (s n : Int) (w : World) :
    Calls Try.prog 39 #[.agg #[.int .i64 s, .int .i64 n]] w fun e w' => e = .returned (.int .i64 (wrap64 (s + n))) ∧ Below w.heap.size w w' := by
  go_enter Try.func39, Try.ntmps39
  go_wp2
  go_ret
  exact ⟨rfl, (Below.refl _ _).alloc (Nat.le_refl _) _⟩

theorem end_in (s n : Int) (w : World) (h1 : -9223372036854775808 ≤ s + n) (h2 : s + n ≤ 9223372036854775807) :
    Calls Try.prog 39 #[.agg #[.int .i64 s, .int .i64 n]] w fun e w' => e = .returned (.int .i64 (s + n)) ∧ Below w.heap.size w w' := by
  have h := end_any s n w
  rw [IntWalk.wrap64_in _ ⟨h1, h2⟩] at h
  exact h

set_option maxHeartbeats 400000 in
theorem right_any (A : Option Addr) (c : Nat) (l : List Sp) (w : World) (hs : Rd w w.heap.size A (spc l)) (hok : SpOk l) (hl : l.length ≤ 4503599627370496) :
    Calls Try.prog 23 #[.slice A l.length c] w fun e w' => e = .returned (.bool (rightF 0 l)) ∧ Below w.heap.size w w' := by
  go_enter Try.func23, Try.ntmps23
  go_wp2
  go_loopw [3, 8] (fun f i wr => ∃ (k : Nat) (g : Int), k ≤ l.length ∧ 0 ≤ g ∧ g ≤ 4097 ∧ i = .int .i64 k ∧ f = .int .i64 g ∧ rightF g (l.drop k) = rightF 0 l ∧ Below w.heap.size w wr) (fun _ i _ => l.length - (intOf i).toNat)
  case atStart => exact ⟨0, 0, by omega, by omega, by omega, rfl, rfl, rfl, Below.refl _ _⟩
  case round =>
    obtain ⟨k, g, hk, hg0, hg1, rfl, rfl, hr, hb⟩ := hrel
    by_cases hlt : k < l.length
    · obtain ⟨b, off, rfl, hbB, hc1, hc2⟩ := sp_at hs k hlt
      obtain ⟨hc, hf⟩ := bcell hb
      obtain ⟨hs1, hs2⟩ := hok _ (List.getElem_mem hlt)
      rw [List.drop_eq_getElem_cons hlt] at hr
      generalize l[k] = p at *
      obtain ⟨s, n⟩ := p
      unfold I64 at hs1 hs2
      simp only at hc1 hc2 hs1 hs2
      have hsz := hb.size
      have Hr := Lib.hid hr; clear hr
      by_cases hbad : s < g ∨ n < 1 ∨ 4096 - s < n
      · have hF := rightF_no (r := l.drop (k + 1)) hbad
        have HF : Hid (false = rightF 0 l) := by rw [← Hr.out, hF]; exact rfl
        clear hF
        by_cases h1 : s < g
        · go_wp2_with fail
          go_ret
          exact ⟨ret_bool HF.out, hb.alloc (by omega) _⟩
        · by_cases h2 : n < 1
          · go_wp2_with fail
            go_ret
            exact ⟨ret_bool HF.out, hb.alloc (by omega) _⟩
          · have h3 : 4096 - s < n := by omega
            go_wp2_with fail
            go_ret
            exact ⟨ret_bool HF.out, hb.alloc (by omega) _⟩
      · have hF := rightF_yes (r := l.drop (k + 1)) hbad
        have HF : Hid (rightF (s + n + 1) (l.drop (k + 1)) = rightF 0 l) := by rw [← Hr.out, hF]; exact rfl
        clear hF
        have h1 : g ≤ s := by omega
        have h2 : 1 ≤ n := by omega
        have h3 : n ≤ 4096 - s := by omega
        clear hbad
        go_wp2_with (go_at_call 39; refine (end_in _ _ _ (by omega) (by omega)).mono ?_; rintro e w' ⟨rfl, hb2⟩)
        go_roundw
        case rel => exact ⟨k + 1, s + n + 1, by omega, by omega, by omega, by go_num, by go_num, HF.out, (hb.alloc (by omega) _).trans (hb2.mono (by simp; omega))⟩
        case measure => simp [intOf]; omega
    · rw [List.drop_of_length_le (by omega)] at hr
      have Hr := Lib.hid hr; clear hr
      go_wp2_with fail
      go_ret
      exact ⟨ret_bool Hr.out, hb⟩

/-- The two lists are one from k on. -/
theorem take_ne {α : Type} {l m : List α} {k : Nat} (h1 : k < l.length) (h2 : k < m.length) (h : l[k] ≠ m[k]) : l ≠ m := by
  rintro rfl; exact h rfl
theorem take_more {α : Type} {l m : List α} {k : Nat} (h1 : k < l.length) (h2 : k < m.length) (ht : l.take k = m.take k) (h : l[k] = m[k]) : l.take (k + 1) = m.take (k + 1) := by
  rw [List.take_succ_eq_append_getElem h1, List.take_succ_eq_append_getElem h2, ht, h]

set_option maxHeartbeats 400000 in
theorem same_any (A A' : Option Addr) (c c' : Nat) (l m : List Sp) (w : World) (hs : Rd w w.heap.size A (spc l)) (ht : Rd w w.heap.size A' (spc m)) (hl : l.length ≤ 4503599627370496) :
    Calls Try.prog 14 #[.slice A l.length c, .slice A' m.length c'] w fun e w' => e = .returned (.bool (decide (l = m))) ∧ Below w.heap.size w w' := by
  by_cases hlen : l.length = m.length
  · have hle : m.length ≤ l.length := by omega
    have hge : l.length ≤ m.length := by omega
    have hn : ((m.length : Int) != (m.length : Int)) = false := by simp
    go_enter Try.func14, Try.ntmps14
    rw [hlen]
    have Hlen := Lib.hid hlen; clear hlen
    go_wp2
    go_loopw [13] (fun i wr => ∃ (k : Nat), k ≤ m.length ∧ i = .int .i64 k ∧ l.take k = m.take k ∧ Below w.heap.size w wr) (fun i _ => m.length - (intOf i).toNat)
    case atStart => exact ⟨0, by omega, rfl, rfl, Below.refl _ _⟩
    case round =>
      obtain ⟨k, hk, rfl, hr, hb⟩ := hrel
      obtain ⟨hc, hf⟩ := bcell hb
      by_cases hlt : k < m.length
      · obtain ⟨b, off, rfl, hbB, hc1, hc2⟩ := sp_at hs k (by omega)
        obtain ⟨b', off', rfl, hbB', hc1', hc2'⟩ := sp_at ht k hlt
        have hlt' : k < l.length := by omega
        have hr1 : l[k] = m[k] → l.take (k + 1) = m.take (k + 1) := fun h => take_more hlt' hlt hr h
        have hr2 : l[k] ≠ m[k] → l ≠ m := fun h => take_ne hlt' hlt h
        clear hr
        generalize l[k] = p at *
        generalize m[k] = q at *
        obtain ⟨s, n⟩ := p
        obtain ⟨s', n'⟩ := q
        simp only at hc1 hc2 hc1' hc2'
        by_cases he : s = s' ∧ n = n'
        · obtain ⟨rfl, rfl⟩ := he
          have Hr1 := Lib.hid (hr1 rfl); clear hr1 hr2
          go_wp2_with fail
          go_quiet (fail)
          go_wp2_with fail
          go_roundw
          case rel => exact ⟨k + 1, by omega, by go_num, Hr1.out, below_draws hb _⟩
          case measure => simp [intOf]; omega
        · have Hr2 := Lib.hid (hr2 (by simpa using he)); clear hr1 hr2
          by_cases h1 : s = s'
          · have h2 : (n == n') = false := by rw [beq_eq_false_iff_ne]; exact fun h => he ⟨h1, h⟩
            subst h1
            clear he
            go_wp2_with fail
            go_quiet (fail)
            go_wp2_with fail
            go_ret
            exact ⟨ret_bool (by rw [decide_eq_false Hr2.out]), below_draws hb _⟩
          · have h2 : (s == s') = false := by rw [beq_eq_false_iff_ne]; exact h1
            clear he h1
            go_wp2_with fail
            go_quiet (fail)
            go_wp2_with fail
            go_ret
            exact ⟨ret_bool (by rw [decide_eq_false Hr2.out]), below_draws hb _⟩
      · go_wp2_with fail
        go_ret
        rw [List.take_of_length_le (by omega), List.take_of_length_le (by omega)] at hr
        exact ⟨ret_bool (by rw [decide_eq_true hr]), hb⟩
  · have hn : ((l.length : Int) != (m.length : Int)) = true := by rw [bne_iff_ne]; omega
    go_enter Try.func14, Try.ntmps14
    go_wp2
    go_ret
    exact ⟨ret_bool (by rw [decide_eq_false (fun h => hlen (by rw [h]))]), Below.refl _ _⟩

/-- A list of numbers in memory. -/
def ints (l : List Int) : List Value := l.map (Value.int .i64)
theorem ints_len (l : List Int) : (ints l).length = l.length := by simp [ints]
theorem ints_at (l : List Int) (k : Nat) (hk : k < l.length) : (ints l)[k]? = some (.int .i64 l[k]) := by simp [ints, hk]
theorem int_at {w : World} {B : Nat} {A : Option Addr} {l : List Int} (h : Rd w B A (ints l)) (k : Nat) (hk : k < l.length) :
    ∃ b off, A = some ⟨b, off, none⟩ ∧ b < B ∧ w.cell? ⟨b, off + k, none⟩ = some (.int .i64 l[k]) := h.at_ k _ (ints_at l k hk)

/-- The reference's own look at a list. -/
def rightR : Option Sp → List Sp → Bool
  | _, [] => true
  | o, p :: r => if p.1 < 0 ∨ p.2 < 1 ∨ 4096 < p.2 ∨ 4096 - p.2 < p.1 ∨ (∃ q, o = some q ∧ p.1 ≤ q.1 + q.2) then false else rightR (some p) r
theorem rightR_eq : ∀ (l : List Sp) (o : Option Sp) (f : Int), (∀ q, o = some q → q.1 + q.2 + 1 = f) → (o = none → f = 0) → 0 ≤ f → rightR o l = rightF f l
  | [], _, _, _, _, _ => rfl
  | (s, n) :: r, o, f, h1, h2, h3 => by
    have hiff : (s < 0 ∨ n < 1 ∨ 4096 < n ∨ 4096 - n < s ∨ (∃ q, o = some q ∧ s ≤ q.1 + q.2)) ↔ (s < f ∨ n < 1 ∨ 4096 - s < n) := by
      rcases o with _ | q
      · have := h2 rfl
        simp; omega
      · have := h1 q rfl
        simp only [Option.some.injEq, exists_eq_left']
        omega
    simp only [rightR, rightF, hiff]
    split
    · rfl
    · exact rightR_eq r _ _ (by rintro q ⟨⟩; rfl) (by simp) (by omega)

set_option maxHeartbeats 1000000 in
theorem rright_any (A : Option Addr) (c : Nat) (l : List Sp) (w : World) (hs : Rd w w.heap.size A (spc l)) (hok : SpOk l) (hl : l.length ≤ 4503599627370496) :
    Calls Try.prog 22 #[.slice A l.length c] w fun e w' => e = .returned (.bool (rightF 0 l)) ∧ Below w.heap.size w w' := by
  go_enter Try.func22, Try.ntmps22
  go_wp2
  go_loopw [7] (fun i wr => ∃ (k : Nat) (g : Int), k ≤ l.length ∧ 0 ≤ g ∧ g ≤ 4097 ∧ i = .int .i64 k ∧ rightF g (l.drop k) = rightF 0 l ∧ (k = 0 → g = 0) ∧ (∀ j (hj : j < l.length), j + 1 = k → l[j].1 + l[j].2 + 1 = g ∧ 0 ≤ l[j].1 ∧ 1 ≤ l[j].2) ∧ Below w.heap.size w wr) (fun i _ => l.length - (intOf i).toNat)
  case atStart => exact ⟨0, 0, by omega, by omega, by omega, rfl, rfl, by omega, by omega, Below.refl _ _⟩
  case round =>
    obtain ⟨k, g, hk, hg0, hg1, rfl, hr, hz, hprev, hb⟩ := hrel
    by_cases hlt : k < l.length
    · have hcell := fun j => sp_at hs j
      obtain ⟨b, off, rfl, hbB, hc1, hc2⟩ := sp_at hs k hlt
      obtain ⟨hc, hf⟩ := bcell hb
      obtain ⟨hs1, hs2⟩ := hok _ (List.getElem_mem hlt)
      rw [List.drop_eq_getElem_cons hlt] at hr
      have hnext : ∀ g', l[k].1 + l[k].2 + 1 = g' → 0 ≤ l[k].1 → 1 ≤ l[k].2 → (∀ j (hj : j < l.length), j + 1 = k + 1 → l[j].1 + l[j].2 + 1 = g' ∧ 0 ≤ l[j].1 ∧ 1 ≤ l[j].2) := by
        intro g' e1 e2 e3 j hj e
        obtain rfl : j = k := by omega
        exact ⟨e1, e2, e3⟩
      have HN := Lib.hid hnext; clear hnext
      generalize hp : l[k] = p at *
      obtain ⟨s, n⟩ := p
      have Hp := Lib.hid hp; clear hp
      unfold I64 at hs1 hs2
      simp only at hc1 hc2 hs1 hs2
      have hsz := hb.size
      have hbr : b < wr.heap.size := by omega
      have Hr := Lib.hid hr; clear hr
      have hpv : 0 < k → ∃ s' n', w.cell? ⟨b, off + (k - 1) * 2, none⟩ = some (.int .i64 s') ∧ w.cell? ⟨b, off + (k - 1) * 2 + 1, none⟩ = some (.int .i64 n') ∧ s' + n' + 1 = g ∧ 0 ≤ s' ∧ 1 ≤ n' := by
        intro h0
        obtain ⟨b', off', e, _, d1, d2⟩ := hcell (k - 1) (by omega)
        simp only [Option.some.injEq, Addr.mk.injEq, and_true] at e
        obtain ⟨rfl, rfl⟩ := e
        obtain ⟨e1, e2, e3⟩ := hprev (k - 1) (by omega) (by omega)
        exact ⟨_, _, d1, d2, e1, e2, e3⟩
      clear hcell hprev
      by_cases hbad : s < g ∨ n < 1 ∨ 4096 - s < n
      · have hF := rightF_no (r := l.drop (k + 1)) hbad
        have HF : Hid (false = rightF 0 l) := by rw [← Hr.out, hF]; exact rfl
        clear hF
        by_cases h1 : s < 0
        · go_wp2_with fail
          go_ret
          exact ⟨ret_bool HF.out, hb.alloc (by omega) _⟩
        · by_cases h2 : n < 1
          · go_wp2_with fail
            go_ret
            exact ⟨ret_bool HF.out, hb.alloc (by omega) _⟩
          · by_cases h3 : 4096 < n
            · go_wp2_with fail
              go_ret
              exact ⟨ret_bool HF.out, hb.alloc (by omega) _⟩
            · by_cases h4 : 4096 - n < s
              · go_wp2_with fail
                go_ret
                exact ⟨ret_bool HF.out, hb.alloc (by omega) _⟩
              · have h0 : 0 < k := by omega
                obtain ⟨s', n', d1, d2, e1, e2, e3⟩ := hpv h0
                clear hpv
                have e4 : s ≤ s' + n' := by omega
                have e5 : s' + n' ≤ 4096 := by omega
                have h0' : decide (0 < k) = true := by simpa using h0
                have e4' : decide (s ≤ s' + n') = true := by simpa using e4
                have E1 := Lib.hid e1; clear e1
                have q4 : IntKind.i64.wrap (s' + n') = s' + n' := IntWalk.i64_in _ (by omega)
                have q1 : IntKind.i64.wrap ((k : Int) - 1) = (k : Int) - 1 := IntWalk.i64_in _ (by omega)
                have q2 : 1 ≤ (k : Int) := by omega
                have q3 : ((k : Int) - 1).toNat = k - 1 := by omega
                have q5 : (k : Int) - 1 < l.length := by omega
                clear hbad hz
                go_wp2_with fail
                go_quiet (fail)
                go_wp2_with fail
                go_ret
                exact ⟨ret_bool HF.out, below_draws (hb.alloc (by omega) _) _⟩
      · have hF := rightF_yes (r := l.drop (k + 1)) hbad
        have HF : Hid (rightF (s + n + 1) (l.drop (k + 1)) = rightF 0 l) := by rw [← Hr.out, hF]; exact rfl
        clear hF
        have h1 : g ≤ s := by omega
        have h2 : 1 ≤ n := by omega
        have h3 : n ≤ 4096 - s := by omega
        clear hbad
        by_cases h0 : 0 < k
        · obtain ⟨s', n', d1, d2, e1, e2, e3⟩ := hpv h0
          clear hpv
          have e4 : s' + n' < s := by omega
          have h0' : decide (0 < k) = true := by simpa using h0
          have e4' : decide (s ≤ s' + n') = false := by simpa using e4
          have E1 := Lib.hid e1; clear e1
          have q4 : IntKind.i64.wrap (s' + n') = s' + n' := IntWalk.i64_in _ (by omega)
          have q1 : IntKind.i64.wrap ((k : Int) - 1) = (k : Int) - 1 := IntWalk.i64_in _ (by omega)
          have q2 : 1 ≤ (k : Int) := by omega
          have q3 : ((k : Int) - 1).toNat = k - 1 := by omega
          have q5 : (k : Int) - 1 < l.length := by omega
          clear hz
          go_wp2_with fail
          go_quiet (fail)
          go_wp2_with fail
          go_roundw
          case rel => exact ⟨k + 1, s + n + 1, by omega, by omega, by omega, by go_num, HF.out, by omega, HN.out _ rfl (by omega) (by omega), below_draws (hb.alloc (by omega) _) _⟩
          case measure => simp [intOf]; omega
        · have h0' : decide (0 < k) = false := by simpa using h0
          clear hpv
          have h0'' : k ≤ 0 := by omega
          clear hz
          go_wp2_with fail
          go_quiet (fail)
          go_wp2_with fail
          go_roundw
          case rel => exact ⟨k + 1, s + n + 1, by omega, by omega, by omega, by go_num, HF.out, by omega, HN.out _ rfl (by omega) (by omega), below_draws (hb.alloc (by omega) _) _⟩
          case measure => simp [intOf]; omega
    · rw [List.drop_of_length_le (by omega)] at hr
      have Hr := Lib.hid hr; clear hr
      go_wp2_with fail
      go_ret
      exact ⟨ret_bool Hr.out, hb⟩
end Go.Proofs.Ytklccgmhllpjkaa
