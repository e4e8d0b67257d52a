
/- Walks: the calls on spans that only read. -/
import Derived.Test.YtddhacmaogaocaaP
import Derived.Deep.QuietTactic
import Derived.BigQuiet
set_option maxRecDepth 10000
namespace Go.Proofs.Ytddhacmaogaocaa
open Go.RowKit

theorem sp_at {w : World} {B : Nat} {A : Option Addr} {l : List Sp} (h : Rd w B A (spc l)) (k : Nat) (hk : k < l.length) :
    ∃ b off, A = some ⟨b, off, none⟩ ∧ b < B ∧ w.cell? ⟨b, off + k * 2, none⟩ = some (.int .i64 l[k].1) ∧ w.cell? ⟨b, off + k * 2 + 1, none⟩ = some (.int .i64 l[k].2) := by
  obtain ⟨h1, h2⟩ := spc_at l k hk
  obtain ⟨b, off, rfl, hl, hc⟩ := h (by rw [spc_len]; omega)
  exact ⟨b, off, rfl, hl, hc _ _ h1, hc _ _ h2⟩

set_option maxHeartbeats 400000 in
theorem end_any (s n : Int) (w : World) :
    Calls Try.prog 51 #[.agg #[.int .i64 s, .int .i64 n]] w fun e w' => e = .returned (.int .i64 (wrap64 (s + n))) ∧ Below w.heap.size w w' := by
  go_enter Try.func51, Try.ntmps51
  go_wp2
  go_ret
  exact ⟨rfl, (Below.refl _ _).alloc (Nat.le_refl _) _⟩

theorem end_in (s n : Int) (w : World) (h1 : -9223372036854775808 ≤ s + n) (h2 : s + n ≤ 9223372036854775807) :
    Calls Try.prog 51 #[.agg #[.int .i64 s, .int .i64 n]] w fun e w' => e = .returned (.int .i64 (s + n)) ∧ Below w.heap.size w w' := by
  have h := end_any s n w
  rw [IntWalk.wrap64_in _ ⟨h1, h2⟩] at h
  exact h

set_option maxHeartbeats 400000 in
theorem right_any (A : Option Addr) (c : Nat) (l : List Sp) (w : World) (hs : Rd w w.heap.size A (spc l)) (hok : SpOk l) (hl : l.length ≤ 4503599627370496) :
    Calls Try.prog 49 #[.slice A l.length c] w fun e w' => e = .returned (.bool (rightF 0 l)) ∧ Below w.heap.size w w' := by
  go_enter Try.func49, Try.ntmps49
  go_wp2
  go_loopw [3, 8] (fun f i wr => ∃ (k : Nat) (g : Int), k ≤ l.length ∧ 0 ≤ g ∧ g ≤ 4097 ∧ i = .int .i64 k ∧ f = .int .i64 g ∧ rightF g (l.drop k) = rightF 0 l ∧ Below w.heap.size w wr) (fun _ i _ => l.length - (intOf i).toNat)
  case atStart => exact ⟨0, 0, by omega, by omega, by omega, rfl, rfl, rfl, Below.refl _ _⟩
  case round =>
    obtain ⟨k, g, hk, hg0, hg1, rfl, rfl, hr, hb⟩ := hrel
    by_cases hlt : k < l.length
    · obtain ⟨b, off, rfl, hbB, hc1, hc2⟩ := sp_at hs k hlt
      obtain ⟨hc, hf⟩ := bcell hb
      obtain ⟨hs1, hs2⟩ := hok _ (List.getElem_mem hlt)
      rw [List.drop_eq_getElem_cons hlt] at hr
      generalize l[k] = p at *
      obtain ⟨s, n⟩ := p
      unfold I64 at hs1 hs2
      simp only at hc1 hc2 hs1 hs2
      have hsz := hb.size
      have Hr := Lib.hid hr; clear hr
      by_cases hbad : s < g ∨ n < 1 ∨ 4096 - s < n
      · have hF := rightF_no (r := l.drop (k + 1)) hbad
        have HF : Hid (false = rightF 0 l) := by rw [← Hr.out, hF]; exact rfl
        clear hF
        by_cases h1 : s < g
        · go_wp2_with fail
          go_ret
          exact ⟨ret_bool HF.out, hb.alloc (by omega) _⟩
        · by_cases h2 : n < 1
          · go_wp2_with fail
            go_ret
            exact ⟨ret_bool HF.out, hb.alloc (by omega) _⟩
          · have h3 : 4096 - s < n := by omega
            go_wp2_with fail
            go_ret
            exact ⟨ret_bool HF.out, hb.alloc (by omega) _⟩
      · have hF := rightF_yes (r := l.drop (k + 1)) hbad
        have HF : Hid (rightF (s + n + 1) (l.drop (k + 1)) = rightF 0 l) := by rw [← Hr.out, hF]; exact rfl
        clear hF
        have h1 : g ≤ s := by omega
        have h2 : 1 ≤ n := by omega
        have h3 : n ≤ 4096 - s := by omega
        clear hbad
        go_wp2_with (go_at_call 51; refine (end_in _ _ _ (by omega) (by omega)).mono ?_; rintro e w' ⟨rfl, hb2⟩)
        go_roundw
        case rel => exact ⟨k + 1, s + n + 1, by omega, by omega, by omega, by go_num, by go_num, HF.out, (hb.alloc (by omega) _).trans (hb2.mono (by simp; omega))⟩
        case measure => simp [intOf]; omega
    · rw [List.drop_of_length_le (by omega)] at hr
      have Hr := Lib.hid hr; clear hr
      go_wp2_with fail
      go_ret
      exact ⟨ret_bool Hr.out, hb⟩

/-- The two lists are one from k on. -/
theorem take_ne {α : Type} {l m : List α} {k : Nat} (h1 : k < l.length) (h2 : k < m.length) (h : l[k] ≠ m[k]) : l ≠ m := by
  rintro rfl; exact h rfl
theorem take_more {α : Type} {l m : List α} {k : Nat} (h1 : k < l.length) (h2 : k < m.length) (ht : l.take k = m.take k) (h : l[k] = m[k]) : l.take (k + 1) = m.take (k + 1) := by
  rw [List.take_succ_eq_append_getElem h1, List.take_succ_eq_append_getElem h2, ht, h]

/-- A list of numbers in memory. -/
def ints (l : List Int) : List Value := l.map (Value.int .i64)
theorem ints_len (l : List Int) : (ints l).length = l.length := by simp [ints]
theorem ints_at (l : List Int) (k : Nat) (hk : k < l.length) : (ints l)[k]? = some (.int .i64 l[k]) := by simp [ints, hk]
theorem int_at {w : World} {B : Nat} {A : Option Addr} {l : List Int} (h : Rd w B A (ints l)) (k : Nat) (hk : k < l.length) :
    ∃ b off, A = some ⟨b, off, none⟩ ∧ b < B ∧ w.cell? ⟨b, off + k, none⟩ = some (.int .i64 l[k]) := h.at_ k _ (ints_at l k hk)

/-- The reference's own look at a list. -/
def rightR : Option Sp → List Sp → Bool
  | _, [] => true
  | o, p :: r => if p.1 < 0 ∨ p.2 < 1 ∨ 4096 < p.2 ∨ 4096 - p.2 < p.1 ∨ (∃ q, o = some q ∧ p.1 ≤ q.1 + q.2) then false else rightR (some p) r
theorem rightR_eq : ∀ (l : List Sp) (o : Option Sp) (f : Int), (∀ q, o = some q → q.1 + q.2 + 1 = f) → (o = none → f = 0) → 0 ≤ f → rightR o l = rightF f l
  | [], _, _, _, _, _ => rfl
  | (s, n) :: r, o, f, h1, h2, h3 => by
    have hiff : (s < 0 ∨ n < 1 ∨ 4096 < n ∨ 4096 - n < s ∨ (∃ q, o = some q ∧ s ≤ q.1 + q.2)) ↔ (s < f ∨ n < 1 ∨ 4096 - s < n) := by
      rcases o with _ | q
      · have := h2 rfl
        simp; omega
      · have := h1 q rfl
        simp only [Option.some.injEq, exists_eq_left']
        omega
    simp only [rightR, rightF, hiff]
    split
    · rfl
    · exact rightR_eq r _ _ (by rintro q ⟨⟩; rfl) (by simp) (by omega)

end Go.Proofs.Ytddhacmaogaocaa
