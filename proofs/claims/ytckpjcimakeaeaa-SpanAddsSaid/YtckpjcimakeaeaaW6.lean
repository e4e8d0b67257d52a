/- Walks: the reference's First and Has; the program's Count. -/
import Derived.Test.YtckpjcimakeaeaaW5
namespace Go.Proofs.Ytckpjcimakeaeaa
open Go.RowKit

set_option maxHeartbeats 400000 in
theorem rfirst_any (A : Option Addr) (c : Nat) (l : List Sp) (many : Int) (w : World) (hs : Rd w w.heap.size A (spc l)) (hl : l.length ≤ 4503599627370496) :
    Calls Try.prog 22 #[.slice A l.length c, .int .i64 many] w fun e w' => e = .returned (firstV l many) ∧ Below w.heap.size w w' := by
  go_enter Try.func22, Try.ntmps22
  go_wp2_with fail
  go_loopw [10] (fun i wr => ∃ (k : Nat), k ≤ l.length ∧ i = .int .i64 k ∧ (many < 1 ∨ ∀ p ∈ l.take k, p.2 < many) ∧ Blk wr w.heap.size 34 #[.int .i64 0, .int .i64 0] ∧ Below w.heap.size w wr) (fun i _ => l.length - (intOf i).toNat)
  case atStart => exact ⟨0, by omega, rfl, .inr (by simp), Blk.new w _ _, (Below.refl _ _).alloc (Nat.le_refl _) _⟩
  case round =>
    obtain ⟨k, hk, rfl, hpre, hbl, hb⟩ := hrel
    have hsz := hbl.lt
    have hg0 := hbl.cell 0
    have hg1 := hbl.cell 1
    have hz0 := hbl.frozen 0
    have hz1 := hbl.frozen 1
    simp only [List.getElem?_toArray, List.getElem?_cons_zero, List.getElem?_cons_succ] at hg0 hg1
    have HP := Lib.hid hpre; clear hpre
    by_cases hlt : k < l.length
    · obtain ⟨b, off, rfl, hbB, hc1, hc2⟩ := sp_at hs k hlt
      obtain ⟨hc, hf⟩ := bcell hb
      by_cases hm : many < 1
      · generalize l[k] = p at *
        obtain ⟨s, n⟩ := p
        simp only at hc1 hc2
        go_wp2_with fail
        go_roundw
        case rel => exact ⟨k + 1, by omega, by go_num, .inl hm, hbl.below ((Below.refl (w.heap.size + 1) _).alloc (by omega) _) (by omega), hb.alloc (by omega) _⟩
        case measure => simp [intOf]; omega
      · have hm' : 1 ≤ many := by omega
        have hpre : ∀ p ∈ l.take k, p.2 < many := HP.out.resolve_left hm
        by_cases hh : many ≤ l[k].2
        · have hhit := first_hit hm' hlt hpre hh
          have HH := Lib.hid hhit; clear hhit hpre
          generalize l[k] = p at *
          obtain ⟨s, n⟩ := p
          simp only at hc1 hc2 hh
          go_wp2_with fail
          have hb2 := ((hbl.set_ 0 (.int .i64 s)).set_ 1 (.int .i64 many)).below ((Below.refl (w.heap.size + 1) _).alloc (by simp; omega) (.cells #[.int .i64 s, .int .i64 n] 34)) (by omega)
          have q0 := hb2.cell 0
          have q1 := hb2.cell 1
          simp only [List.setIfInBounds_toArray, List.set_cons_zero, List.set_cons_succ, List.getElem?_toArray, List.getElem?_cons_zero, List.getElem?_cons_succ] at q0 q1
          rw [HH.out]
          exact bodyPost_ret (v := .tuple #[.agg #[.int .i64 s, .int .i64 many], .bool true]) (by simp only [results, Try.results22]; simp [go_sem, q0, q1]) rfl ⟨rfl, ((hb.setCell (by simp) _).setCell (by simp) _).alloc (by simp; omega) _⟩
        · have hnext := take_lt hlt hpre (by omega)
          have HH := Lib.hid hnext; clear hnext hpre
          generalize l[k] = p at *
          obtain ⟨s, n⟩ := p
          simp only at hc1 hc2 hh
          go_wp2_with fail
          go_roundw
          case rel => exact ⟨k + 1, by omega, by go_num, .inr HH.out, hbl.below ((Below.refl (w.heap.size + 1) _).alloc (by omega) _) (by omega), hb.alloc (by omega) _⟩
          case measure => simp [intOf]; omega
    · have hmiss : firstV l many = .tuple #[.agg #[.int .i64 0, .int .i64 0], .bool false] := by
        rcases HP.out with h | h
        · exact first_low h
        · exact first_miss (by rw [List.take_of_length_le (by omega)] at h; exact h)
      have HM := Lib.hid hmiss; clear hmiss
      go_wp2_with fail
      have hb2 := (hbl.set_ 0 (.int .i64 0)).set_ 1 (.int .i64 0)
      have q0 := hb2.cell 0
      have q1 := hb2.cell 1
      simp only [List.setIfInBounds_toArray, List.set_cons_zero, List.set_cons_succ, List.getElem?_toArray, List.getElem?_cons_zero, List.getElem?_cons_succ] at q0 q1
      rw [HM.out]
      exact bodyPost_ret (v := .tuple #[.agg #[.int .i64 0, .int .i64 0], .bool false]) (by simp only [results, Try.results22]; simp [go_sem, q0, q1]) rfl ⟨rfl, (hb.setCell (by simp) _).setCell (by simp) _⟩

set_option maxHeartbeats 400000 in
theorem rhas_any (A : Option Addr) (c : Nat) (l : List Sp) (x : Int) (w : World) (hs : Rd w w.heap.size A (spc l)) (hr : rightF 0 l = true) :
    Calls Try.prog 24 #[.slice A l.length c, .int .i64 x] w fun e w' => e = .returned (.bool (memF l x)) ∧ Below w.heap.size w w' := by
  have hl : (l.length : Int) ≤ 4097 := by have := right_len (by omega) (by omega) hr; omega
  have hmem := right_mem hr
  have HM := Lib.hid hmem; clear hmem
  go_enter Try.func24, Try.ntmps24
  go_wp2_with fail
  go_loopw [9] (fun i wr => ∃ (k : Nat), k ≤ l.length ∧ i = .int .i64 k ∧ memF (l.take k) x = false ∧ Below w.heap.size w wr) (fun i _ => l.length - (intOf i).toNat)
  case atStart => exact ⟨0, by omega, rfl, rfl, Below.refl _ _⟩
  case round =>
    obtain ⟨k, hk, rfl, hpre, hb⟩ := hrel
    have hsz := hb.size
    by_cases hlt : k < l.length
    · obtain ⟨b, off, rfl, hbB, hc1, hc2⟩ := sp_at hs k hlt
      obtain ⟨hc, hf⟩ := bcell hb
      obtain ⟨h0, h1, h2⟩ := HM.out _ (List.getElem_mem hlt)
      have hin : ∀ y, inSp l[k] x = y → memF (l.take (k + 1)) x = y := fun y hy => by
        rw [List.take_succ_eq_append_getElem hlt, mem_app, hpre]; simpa [memF] using hy
      have hyes : memF (l.take (k + 1)) x = true → memF l x = true := fun h => by
        rw [← List.take_append_drop (k + 1) l, mem_app, h]; rfl
      have HI := Lib.hid hin
      have HY := Lib.hid hyes
      clear hin hyes hpre
      generalize l[k] = p at *
      obtain ⟨s, n⟩ := p
      simp only at hc1 hc2 h0 h1 h2
      by_cases ha : s ≤ x
      · by_cases hbb : x < s + n
        · go_wp2_with fail
          go_ret
          exact ⟨ret_bool (HY.out (HI.out _ (by simp [inSp]; omega))).symm, hb.alloc (by omega) _⟩
        · go_wp2_with fail
          go_roundw
          case rel => exact ⟨k + 1, by omega, by go_num, HI.out _ (by simp [inSp]; omega), hb.alloc (by omega) _⟩
          case measure => simp [intOf]; omega
      · go_wp2_with fail
        go_roundw
        case rel => exact ⟨k + 1, by omega, by go_num, HI.out _ (by simp [inSp]; omega), hb.alloc (by omega) _⟩
        case measure => simp [intOf]; omega
    · rw [List.take_of_length_le (by omega)] at hpre
      have HP := Lib.hid hpre; clear hpre
      go_wp2_with fail
      go_ret
      exact ⟨ret_bool HP.out.symm, hb⟩

set_option maxHeartbeats 400000 in
theorem count_any (A : Option Addr) (c : Nat) (l : List Sp) (w : World) (hs : Rd w w.heap.size A (spc l)) (hr : rightF 0 l = true) :
    Calls Try.prog 13 #[.slice A l.length c] w fun e w' => e = .returned (.int .i64 (total l)) ∧ Below w.heap.size w w' := by
  have hl : (l.length : Int) ≤ 4097 := by have := right_len (by omega) (by omega) hr; omega
  have hmem := right_mem hr
  have HM := Lib.hid hmem
  have HT := Lib.hid (total_right (by omega) (by omega) hr)
  have HPos : ∀ (m : List Sp), (∀ p ∈ m, 1 ≤ p.2) → 0 ≤ total m := by
    intro m
    induction m with
    | nil => intro _; exact Int.le_refl _
    | cons p r ih => intro h; have := ih (fun q hq => h q (by simp [hq])); have := h p (by simp); simp only [total]; omega
  have HP := Lib.hid HPos
  clear hmem HPos
  go_enter Try.func13, Try.ntmps13
  go_wp2_with fail
  go_loopw [3, 8] (fun t i wr => ∃ (k : Nat), k ≤ l.length ∧ i = .int .i64 k ∧ t = .int .i64 (total (l.take k)) ∧ Below w.heap.size w wr) (fun _ i _ => l.length - (intOf i).toNat)
  case atStart => exact ⟨0, by omega, rfl, rfl, Below.refl _ _⟩
  case round =>
    obtain ⟨k, hk, rfl, rfl, hb⟩ := hrel
    have hsz := hb.size
    by_cases hlt : k < l.length
    · obtain ⟨b, off, rfl, hbB, hc1, hc2⟩ := sp_at hs k hlt
      obtain ⟨hc, hf⟩ := bcell hb
      obtain ⟨h0, h1, h2⟩ := HM.out _ (List.getElem_mem hlt)
      have hst : total (l.take (k + 1)) = total (l.take k) + l[k].2 := by
        rw [List.take_succ_eq_append_getElem hlt, total_app]; simp [total]
      have hsum : total l = total (l.take (k + 1)) + total (l.drop (k + 1)) := by
        rw [← total_app, List.take_append_drop]
      have hp1 : 0 ≤ total (l.take k) := HP.out _ fun p hp => (HM.out p (List.mem_of_mem_take hp)).2.1
      have hp2 : 0 ≤ total (l.drop (k + 1)) := HP.out _ fun p hp => (HM.out p (List.mem_of_mem_drop hp)).2.1
      have hT := HT.out
      have hb3 : total (l.take k) + l[k].2 ≤ 4097 := by omega
      have HS := Lib.hid hst
      clear hst hsum hp2 hT
      generalize total (l.take k) = t at *
      generalize l[k] = p at *
      obtain ⟨s, n⟩ := p
      simp only at hc1 hc2 h0 h1 h2 hb3
      go_wp2_with fail
      go_roundw
      case rel => exact ⟨k + 1, by omega, by go_num, by rw [HS.out], hb.alloc (by omega) _⟩
      case measure => simp [intOf]; omega
    · rw [List.take_of_length_le (by omega)]
      go_wp2_with fail
      go_ret
      exact ⟨rfl, hb⟩
end Go.Proofs.Ytckpjcimakeaeaa
