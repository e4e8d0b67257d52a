
/- Walks: how many bytes widths have together; a number out of bytes, and bytes out of a number, the program's and the reference's. -/
import Derived.Test.YtgbghmgipnphkaaFP
import Derived.Deep.QuietTactic
import Derived.BigQuiet
import Derived.Maps.AppendAt
import Derived.Laws.BitsAllLaws
set_option maxRecDepth 10000
namespace Go.Proofs.Ytgbghmgipnphkaa
open Go.RowKit

theorem wd_at {w : World} {B : Nat} {A : Option Addr} {l : List Int} (h : Rd w B A (wds l)) (k : Nat) (hk : k < l.length) :
    ∃ b off, A = some ⟨b, off, none⟩ ∧ b < B ∧ w.cell? ⟨b, off + k, none⟩ = some (.int .i64 l[k]) := h.at_ k _ (wds_at l k hk)
theorem by_at {w : World} {B : Nat} {A : Option Addr} {l : List UInt8} (h : Rd w B A (bys l)) (k : Nat) (hk : k < l.length) :
    ∃ b off, A = some ⟨b, off, none⟩ ∧ b < B ∧ w.cell? ⟨b, off + k, none⟩ = some (.int .u8 (l[k].toNat : Int)) := h.at_ k _ (bys_at l k hk)
theorem un_at {w : World} {B : Nat} {A : Option Addr} {l : List Nat} (h : Rd w B A (uns l)) (k : Nat) (hk : k < l.length) :
    ∃ b off, A = some ⟨b, off, none⟩ ∧ b < B ∧ w.cell? ⟨b, off + k, none⟩ = some (.int .u64 (l[k] : Int)) := h.at_ k _ (uns_at l k hk)

theorem sum_take {l : List Int} (k : Nat) (hk : k < l.length) : sumF (l.take (k + 1)) = sumF (l.take k) + l[k] := by
  rw [List.take_succ_eq_append_getElem hk, sumF_app]
  simp [sumF]

def totV (l : List Int) : Value := .tuple #[.int .i64 (if wideB l then sumF l else 0), .bool (wideB l)]
theorem tot_no {l : List Int} (h : wideB l = false) : .tuple #[.int .i64 0, .bool false] = totV l := by
  unfold totV; rw [h]; rfl
theorem tot_yes {l m : List Int} (h : wideB l = true) (hm : m = l) : .tuple #[.int .i64 (sumF m), .bool true] = totV l := by
  unfold totV; rw [h, hm]; rfl

set_option maxHeartbeats 400000 in
theorem total_any (A : Option Addr) (c : Nat) (l : List Int) (w : World) (hs : Rd w w.heap.size A (wds l)) (hl : l.length ≤ 1125899906842624) :
    Calls Try.prog 32 #[.slice A l.length c] w fun e w' => e = .returned (totV l) ∧ Below w.heap.size w w' := by
  go_enter Try.func32, Try.ntmps32
  go_wp2_with fail
  go_loopw [4, 9] (fun s i wr => ∃ (k : Nat), k ≤ l.length ∧ i = .int .i64 k ∧ s = .int .i64 (sumF (l.take k)) ∧ (∀ x ∈ l.take k, 1 ≤ x ∧ x ≤ 8) ∧ Below w.heap.size w wr) (fun _ i _ => l.length - (intOf i).toNat)
  case atStart => exact ⟨0, by omega, rfl, rfl, by simp, Below.refl _ _⟩
  case round =>
    obtain ⟨k, hk, rfl, rfl, hin, hb⟩ := hrel
    have hsb := sum_bd hin
    have hlt' : (l.take k).length ≤ k := List.length_take_le _ _
    have HI := Lib.hid hin; clear hin
    by_cases hlt : k < l.length
    · obtain ⟨b, off, rfl, hbB, hc1⟩ := wd_at hs k hlt
      obtain ⟨hc, hf⟩ := bcell hb
      have hst := sum_take k hlt
      have HS := Lib.hid hst; clear hst
      have HM : Hid (l[k] ∈ l) := List.getElem_mem hlt
      have HT : Hid (l.take (k + 1) = l.take k ++ [l[k]]) := List.take_succ_eq_append_getElem hlt
      generalize l[k] = x at *
      obtain ⟨hs0, hs1, hs2⟩ := hsb
      by_cases hx : 1 ≤ x ∧ x ≤ 8
      · obtain ⟨hx1, hx2⟩ := hx
        go_wp2_with fail
        go_roundw
        case rel => exact ⟨k + 1, by omega, by go_num, by rw [HS.out], fun y hy => by
          rw [HT.out, List.mem_append, List.mem_singleton] at hy
          rcases hy with hy | rfl
          · exact HI.out y hy
          · exact ⟨hx1, hx2⟩, hb⟩
        case measure => simp [intOf]; omega
      · have hw : wideB l = false := by
          rw [Bool.eq_false_iff]
          intro h
          exact hx (wideB_mem h x HM.out)
        have HW := Lib.hid hw; clear hw
        by_cases hx1 : x < 1
        · go_wp2_with fail
          go_ret2
          exact ⟨ret_val (tot_no HW.out), hb⟩
        · have hx2 : 8 < x := by omega
          clear hx
          go_wp2_with fail
          go_ret2
          exact ⟨ret_val (tot_no HW.out), hb⟩
    · have hw : wideB l = true := wideB_mk (by rw [List.take_of_length_le (by omega)] at HI; exact HI.out)
      have HT : Hid (l.take k = l) := List.take_of_length_le (by omega)
      have HW := Lib.hid hw; clear hw
      go_wp2_with fail
      go_ret2
      exact ⟨ret_val (tot_yes HW.out HT.out), hb⟩

theorem or_step (a x k : Nat) (ha : a < 18446744073709551616) : bits .or .u64 (a : Int) (IntKind.u64.wrap ((x : Int) * 2 ^ (8 * k))) = ((a ||| x <<< (8 * k) % 18446744073709551616 : Nat) : Int) := by
  have e : IntKind.u64.wrap ((x : Int) * 2 ^ (8 * k)) = ((x <<< (8 * k) % 18446744073709551616 : Nat) : Int) := by
    rw [Nat.shiftLeft_eq]
    simp [IntKind.wrap, IntKind.bits, IntKind.signed]
  rw [e, u64_or_nat _ _ ha (Nat.mod_lt _ (by omega))]

set_option maxHeartbeats 400000 in
theorem number_same (A : Option Addr) (c B : Nat) (l : List UInt8) (w : World) (hs : Rd w B A (bys l)) (hl : l.length ≤ 8) :
    Calls Try.prog 34 #[.slice A l.length c] w fun e w' => e = .returned (.int .u64 (numF l : Int)) ∧ w' = w := by
  go_enter Try.func34, Try.ntmps34
  go_wp2_with fail
  go_loop [3, 8] (fun s i => ∃ (k : Nat), k ≤ l.length ∧ i = .int .i64 k ∧ s = .int .u64 (numF (l.take k) : Int)) (fun _ i => l.length - (intOf i).toNat)
  case atStart => exact ⟨0, by omega, rfl, rfl⟩
  case round =>
    obtain ⟨k, hk, rfl, rfl⟩ := hrel
    by_cases hlt : k < l.length
    · obtain ⟨b, off, rfl, hbB, hc1⟩ := by_at hs k hlt
      have hor := num_or l k hlt hl
      have HO := Lib.hid hor; clear hor
      have hbt := l[k].toNat_lt
      have ha : Hid (numF (l.take k) < 18446744073709551616) := numF_lt8 (by rw [List.length_take]; omega)
      generalize l[k].toNat = x at *
      go_wp2_with fail
      go_round
      case rel => exact ⟨k + 1, by omega, by go_num, by rw [← HO.out, or_step _ _ _ ha.out]⟩
      case measure => simp [intOf]; omega
    · have HT : Hid (l.take k = l) := List.take_of_length_le (by omega)
      go_wp2_with fail
      go_ret
      exact ⟨ret_int (by rw [HT.out]), rfl⟩
theorem Rd.take {w : World} {B : Nat} {A : Option Addr} {xs : List Value} (h : Rd w B A xs) (k : Nat) : Rd w B A (xs.take k) := fun hn => by
  obtain ⟨b, off, e, hl, hc⟩ := h (by rw [List.length_take] at hn; omega)
  refine ⟨b, off, e, hl, fun j v hv => hc j v ?_⟩
  rw [List.getElem?_take] at hv
  split at hv
  · exact hv
  · cases hv
theorem bys_take (l : List UInt8) (k : Nat) : (bys l).take k = bys (l.take k) := by simp [bys, List.map_take]
/-- The number of the first k of some bytes. -/
theorem number_first (A : Option Addr) (c B k : Nat) (l : List UInt8) (w : World) (hs : Rd w B A (bys l)) (hk : k ≤ 8) (hl : k ≤ l.length) :
    Calls Try.prog 34 #[.slice A k c] w fun e w' => e = .returned (.int .u64 (numF (l.take k) : Int)) ∧ w' = w := by
  have h := number_same A c B (l.take k) w (by rw [← bys_take]; exact hs.take k) (by rw [List.length_take]; omega)
  rwa [List.length_take_of_le hl] at h
end Go.Proofs.Ytgbghmgipnphkaa
