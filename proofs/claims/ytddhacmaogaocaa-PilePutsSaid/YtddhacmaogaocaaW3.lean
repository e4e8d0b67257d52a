
/- Walks: Of, the program's and the reference's; sets of bools. -/
import Derived.Test.YtddhacmaogaocaaW2
set_option maxRecDepth 10000
namespace Go.Proofs.Ytddhacmaogaocaa
open Go.RowKit

set_option maxHeartbeats 400000 in
theorem of_any (A : Option Addr) (c : Nat) (l : List Int) (w : World) (hs : Rd w w.heap.size A (ints l)) (hl : l.length ≤ 4611686018427387903) :
    Calls Try.prog 50 #[.slice A l.length c] w fun e w' => ∃ v, e = .returned v ∧ OwnR w' w.heap.size v (canon (inI l)).reverse ∧ Below w.heap.size w w' := by
  have hz := zeroArr
  obtain ⟨S, hS⟩ : ∃ S, S = inI l := ⟨_, rfl⟩
  rw [← hS]
  have HSl := Lib.hid hS; clear hS
  go_enter Try.func50, Try.ntmps50
  go_wp2_with fail
  clear hz
  go_loopw [10] (fun i wr => ∃ (k : Nat), k ≤ l.length ∧ i = .int .i64 k ∧ Blk wr w.heap.size 97 (barr (inI (l.take k))) ∧ Below w.heap.size w wr) (fun i _ => l.length - (intOf i).toNat)
  case atStart => exact ⟨0, by omega, rfl, by rw [show (inI (l.take 0)) = (fun _ => false) from rfl, ← falses_eq]; exact Blk.new w _ _, (Below.refl _ _).alloc (by omega) _⟩
  case round =>
    obtain ⟨k, hk, rfl, hbl, hb⟩ := hrel
    by_cases hlt : k < l.length
    · obtain ⟨b, off, rfl, hbB, hc1⟩ := int_at hs k hlt
      obtain ⟨hc, hf⟩ := bcell hb
      have hsz := hbl.lt
      have hin := inI_snoc l k hlt
      have HI := Lib.hid hin; clear hin
      have HL : Hid (∃ x, l[k] = x) := ⟨_, rfl⟩
      generalize l[k] = x at *
      by_cases hx : 0 ≤ x ∧ x < 4096
      · obtain ⟨hx0, hx1⟩ := hx
        obtain ⟨m, rfl⟩ := Int.eq_ofNat_of_zero_le hx0
        have hcell : wr.cell? ⟨w.heap.size, m, none⟩ = some (.bool (inI (l.take k) m)) := (hbl.cell m).trans (barr_at _ m (by omega))
        have hfz := hbl.frozen m
        generalize inI (l.take k) m = bm at hcell
        go_wp2_with fail
        go_roundw
        case rel => exact ⟨k + 1, by omega, by go_num, by rw [← barr_set (S := inI (l.take k)) (T := inI (l.take (k + 1))) (b := true) m (by omega) (by rw [HI.out]; simp) (fun n _ _ hn => by rw [HI.out]; simp [hn])]; exact hbl.set_ m _, hb.setCell (Nat.le_refl _) _⟩
        case measure => simp [intOf]; omega
      · go_wp2_with fail
        all_goals
          go_roundw
          case rel => exact ⟨k + 1, by omega, by go_num, by rw [barr_congr (S := inI (l.take (k + 1))) (T := inI (l.take k)) (fun n h0 h1 => by rw [HI.out, show decide (n = x) = false from decide_eq_false (by omega), Bool.or_false])]; exact hbl, hb⟩
          case measure => simp [intOf]; omega
    · rw [List.take_of_length_le (by omega)] at hbl
      rw [← HSl.out] at hbl
      go_wp2_with fail
      obtain ⟨wo, rfl⟩ : ∃ wo : World, wo = wr := ⟨_, rfl⟩
      have hsz := hbl.lt
      go_loopw [6, 23] (fun v i wr => ∃ (k : Nat), k ≤ 4096 ∧ i = .int .i64 k ∧ OwnR wr (w.heap.size + 1) v (buildR S k) ∧ Blk wr w.heap.size 97 (barr S) ∧ Below w.heap.size w wr) (fun _ i _ => 4096 - (intOf i).toNat)
      case atStart => exact ⟨0, by omega, rfl, World.ownsRow_nil _ _ _ _, hbl, hb⟩
      case round =>
        obtain ⟨k, hk, rfl, hown, hbl, hb⟩ := hrel
        have hsz := hbl.lt
        by_cases hlt : k < 4096
        · have hcell : wr.cell? ⟨w.heap.size, k, none⟩ = some (.bool (S k)) := (hbl.cell k).trans (barr_at S k hlt)
          obtain ⟨hin, hlen⟩ := built_in (S := S) hk
          have HL := Lib.hid hlen; clear hlen
          have hst : buildR S (k + 1) = if S k then addR (buildR S k) k (k + 1) else buildR S k := rfl
          have hlt' : (k : Int) < 4096 := by omega
          have HK := Lib.hid (And.intro hk hlt); clear hk hlt
          by_cases hS : S k = true
          · rw [if_pos hS] at hst
            rw [hS] at hcell
            have HS := Lib.hid hst; clear hst hS
            have HO := Lib.hid hown
            have HI := Lib.hid hin
            clear hown hin
            go_wp2_with (go_at_call 52; refine (add_any (w.heap.size + 1) _ (buildR S k) k (k + 1) _ HO.out (by omega) HL.out (by omega) (by omega) (by omega) HI.out).mono ?_; rintro e w1 ⟨v1, rfl, ho1, hb1⟩)
            go_roundw
            case rel => exact ⟨k + 1, HK.out.2, by go_num, by rw [HS.out]; exact ho1, hbl.below hb1 (by omega), hb.trans (hb1.mono (by omega))⟩
            case measure => simp [intOf]; omega
          · rw [if_neg hS] at hst
            rw [Bool.eq_false_iff.2 hS] at hcell
            have HS := Lib.hid hst; clear hst hS hin
            go_wp2_with fail
            go_roundw
            case rel => exact ⟨k + 1, HK.out.2, by go_num, by rw [HS.out]; exact hown, hbl, hb⟩
            case measure => simp [intOf]; omega
        · obtain rfl : k = 4096 := by omega
          have HO := Lib.hid hown; clear hown
          go_wp2_with fail
          go_ret
          exact ⟨_, rfl, own_base (base := w.heap.size + 1) (by unfold canon; rw [List.reverse_reverse]; exact HO.out) (by omega), hb⟩
end Go.Proofs.Ytddhacmaogaocaa
