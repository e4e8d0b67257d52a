
/- A map's calls walked: New, room, slab, Count, Room. -/
import Derived.Test.YtddhacmaogaocaaN10
set_option maxRecDepth 10000
set_option maxRecDepth 10000
namespace Go.Proofs.Ytddhacmaogaocaa
open Go.RowKit

def newK (k j : Nat) : Nat := if 4 ≤ j ∧ j < k then 1 else 0
theorem newK_code (x : Int) (k : Nat) (h2 : (k : Int) ≤ max 4 (min x 1024)) (h3 : min x 1024 ≤ k) : narr (newK k) = narr (ncodeF (newMp x)) :=
  narr_congr fun j hj => by
    have ht : (newMp x).tot = (min (max x 0) 1024).toNat := rfl
    have hs : (newMp x).st j = 0 := rfl
    unfold newK ncodeF
    rw [ht, hs]
    by_cases h : 4 ≤ j ∧ j < k
    · rw [if_pos h, if_pos (by omega)]
    · rw [if_neg h, if_neg (by omega)]
set_option maxHeartbeats 1000000 in
theorem mnew_any (x : Int) (w : World) (hx : I64 x) : Calls Try.prog 23 #[.int .i64 x] w fun e w' => ∃ O g, e = .returned (.pointer (some ⟨g, 0, none⟩)) ∧ MapAt w' O g (newMp x) ∧ (∀ k, O k → w.heap.size ≤ k) ∧ Below w.heap.size w w' := by
  have hz := zeroMap
  obtain ⟨hx1, hx2⟩ := hx
  go_enter Try.func23, Try.ntmps23
  go_wp2_with fail

  clear hz
  go_loopw [4] (fun i wr => ∃ (k : Nat), 4 ≤ k ∧ (k : Int) ≤ max 4 (min x 1024) ∧ i = .int .i64 k ∧ Blk wr w.heap.size 76 (narr (newK k)) ∧ Below w.heap.size w wr) (fun i _ => (1024 - intOf i).toNat)
  case atStart => exact ⟨4, by omega, by omega, rfl, by rw [show narr (newK 4) = zerosN from (narr_congr fun n _ => by unfold newK; rw [if_neg (by omega)]).trans zerosN_eq.symm]; exact Blk.new w _ _, (Below.refl _ _).alloc (Nat.le_refl _) _⟩
  case round =>
    obtain ⟨k, hk4, hk, rfl, hbl, hb⟩ := hrel
    have hsz := hbl.lt
    by_cases hlt : (k : Int) < min x 1024
    · have h1 : (k : Int) < x := by omega
      have h2 : (k : Int) < 1024 := by omega
      have hcell : wr.cell? ⟨w.heap.size, k, none⟩ = some (.int .u8 ((newK k k : Nat) : Int)) := (hbl.cell k).trans (narr_at _ k (by omega))
      rw [show newK k k = 0 from by unfold newK; rw [if_neg (by omega)]] at hcell
      have hfz := hbl.frozen k
      have HS := Lib.hid (narr_set (f := newK k) (g := newK (k + 1)) (b := 1) k (by omega) (by unfold newK; rw [if_pos (by omega)]) (fun n _ hn => by
        unfold newK
        by_cases h : 4 ≤ n ∧ n < k
        · rw [if_pos h, if_pos (by omega)]
        · rw [if_neg h, if_neg (by omega)]))
      have HK := Lib.hid (And.intro hk4 hk)
      clear hk hk4
      go_wp2_with fail
      go_roundw
      case rel => exact ⟨k + 1, by have := HK.out; omega, by have := HK.out; omega, by go_num, by rw [← HS.out]; exact hbl.set_ k _, hb.setCell (Nat.le_refl _) _⟩
      case measure => simp [intOf]; omega
    · have HE := Lib.hid (newK_code x k hk (by omega))
      rcases Int.lt_or_le 1024 x with h1 | h1
      all_goals
        have h2 : ¬ (k : Int) < min x 1024 := hlt
        have h3 : min x 1024 ≤ (k : Int) := by omega
        go_wp2_with fail
        go_ret
        exact ⟨fun j => j = w.heap.size, _, rfl, ⟨by rw [← HE.out]; exact hbl, fun _ => Iff.rfl, newMp_tot x, fun _ => Nat.zero_le _⟩, fun j hj => by rw [hj]; exact Nat.le_refl _, hb⟩
end Go.Proofs.Ytddhacmaogaocaa
