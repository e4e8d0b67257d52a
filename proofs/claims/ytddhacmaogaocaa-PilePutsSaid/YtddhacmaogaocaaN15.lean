
/- A map's calls walked: Index, roomiest, Alloc, Many. -/
import Derived.Test.YtddhacmaogaocaaN13
set_option maxRecDepth 10000
set_option maxRecDepth 10000
namespace Go.Proofs.Ytddhacmaogaocaa
open Go.RowKit

theorem firstR_at {p : Nat → Bool} {lo k : Nat} : firstR p lo (k + 1) = match firstR p lo k with
    | some i => some i
    | none => if p (lo + k) = true then some (lo + k) else none := rfl
theorem firstR_grow {p : Nat → Bool} {lo k i : Nat} (h : firstR p lo k = some i) : ∀ n, k ≤ n → firstR p lo n = some i
  | 0, hn => by
    obtain rfl : k = 0 := by omega
    exact h
  | n + 1, hn => by
    by_cases hk : k = n + 1
    · subst hk; exact h
    · rw [firstR_at, firstR_grow h n (by omega)]
def idxF (o : Option Nat) (lo : Nat) : Int := match o with
  | none => -1
  | some i => (i : Int) - (lo : Int)
set_option maxHeartbeats 1000000 in
theorem index_any (g lo n c : Nat) (f : Nat → Nat) (s : Nat) (w : World) (hs : Cel w g lo n f) (hn : n ≤ 1024) :
    Calls Try.prog 41 #[.slice (some ⟨g, lo, none⟩) n c, .int .u8 (s : Int)] w fun e w' => e = .returned (.int .i64 (idxF (firstR (isN f s) lo n) lo)) ∧ Below w.heap.size w w' := by
  go_enter Try.func41, Try.ntmps41
  go_wp2_with fail
  go_loopw [8] (fun i wr => ∃ (k : Nat), k ≤ n ∧ i = .int .i64 k ∧ firstR (isN f s) lo k = none ∧ Below w.heap.size w wr) (fun i _ => n - (intOf i).toNat)
  case atStart => exact ⟨0, by omega, rfl, rfl, Below.refl _ _⟩
  case round =>
    obtain ⟨k, hk, rfl, hno, hb⟩ := hrel
    obtain ⟨hc, hf⟩ := bcell hb
    by_cases hlt : k < n
    · have hcell := (hc g (lo + k) hs.lt).trans (hs.at_ k hlt)
      have hst : firstR (isN f s) lo (k + 1) = if (f (lo + k) == s) = true then some (lo + k) else none := by rw [firstR_at, hno]; rfl
      have HG := Lib.hid (fun i (h : firstR (isN f s) lo (k + 1) = some i) => firstR_grow h n hlt)
      generalize f (lo + k) = x at hcell hst
      have HK := Lib.hid hk; clear hk hno
      have hk1 : (k : Int) < 1024 := by omega
      by_cases hx : x = s
      · subst hx
        rw [if_pos (by simp)] at hst
        have HS := Lib.hid (HG.out _ hst); clear hst HG
        go_wp2_with fail
        go_ret
        exact ⟨ret_int (by rw [HS.out]; unfold idxF; simp only; omega), hb⟩
      · rw [if_neg (by simpa using hx)] at hst
        have HS := Lib.hid hst; clear hst HG
        have hx' : ((s : Int) == (x : Int)) = false := by rw [beq_eq_false_iff_ne]; omega
        clear hx
        go_wp2_with fail
        go_roundw
        case rel => exact ⟨k + 1, hlt, by go_num, HS.out, hb⟩
        case measure => simp [intOf]; omega
    · obtain rfl : k = n := by omega
      have HN := Lib.hid hno; clear hno
      go_wp2_with fail
      go_ret
      exact ⟨ret_int (by rw [HN.out]; rfl), hb⟩
section
variable {w : World} {O : Nat → Prop} {g : Nat} {m : Mp}
set_option maxHeartbeats 1000000 in
theorem roomiest_any (h : MapAt w O g m) : Calls Try.prog 40 #[.pointer (some ⟨g, 0, none⟩)] w fun e w' => e = .returned (.int .i64 (m.best : Int)) ∧ Below w.heap.size w w' := by
  have HH := Lib.hid h
  clear h
  go_enter Try.func40, Try.ntmps40
  go_wp2_with fail
  go_loopw [3, 5] (fun b i wr => ∃ (k : Nat), k ≤ 16 ∧ i = .int .i64 k ∧ b = .int .i64 (bestR m (k - 1) : Int) ∧ Below w.heap.size w wr) (fun _ i _ => 16 - (intOf i).toNat)
  case atStart => exact ⟨0, by omega, rfl, rfl, Below.refl _ _⟩
  case round =>
    obtain ⟨k, hk, rfl, rfl, hb⟩ := hrel
    by_cases hlt : k < 16
    · have HB : Hid (bestR m (k + 1 - 1) = if m.room (bestR m (k - 1)) < m.room k then k else bestR m (k - 1)) := by
        rcases Nat.eq_zero_or_pos k with rfl | h0
        · refine (if_neg (Nat.lt_irrefl _)).symm
        · obtain ⟨j, rfl⟩ : ∃ j, k = j + 1 := ⟨k - 1, by omega⟩
          rfl
      have hbl := best_le m (k - 1)
      have hR : ∀ j : Nat, j < 16 → m.roomI (j : Int) = m.room j := fun j hj => by unfold Mp.roomI; rw [if_pos (by omega), Int.toNat_natCast]
      generalize bestR m (k - 1) = q at *
      have HA : Hid (∀ w', Below w.heap.size w w' → Calls Try.prog 47 #[.pointer (some ⟨g, 0, none⟩), .int .i64 (k : Int)] w' fun e w2 => e = .returned (.int .i64 (m.room k : Int)) ∧ Below w'.heap.size w' w2) := fun w' hb' => by
        have := mroom_any (k : Int) (by unfold I64; omega) (HH.out.far hb')
        rwa [hR k hlt] at this
      have HC : Hid (∀ w', Below w.heap.size w w' → Calls Try.prog 47 #[.pointer (some ⟨g, 0, none⟩), .int .i64 (q : Int)] w' fun e w2 => e = .returned (.int .i64 (m.room q : Int)) ∧ Below w'.heap.size w' w2) := fun w' hb' => by
        have := mroom_any (q : Int) (by unfold I64; omega) (HH.out.far hb')
        rwa [hR q (by omega)] at this
      clear hR hbl
      have HK := Lib.hid hk
      have hk1 : (k : Int) < 16 := by omega
      clear hk
      go_wp2_with fail
      refine Calls.mono (HA.out _ hb) ?_
      rintro e w1 ⟨rfl, hb1⟩
      have hb2 := hb.trans (hb1.mono hb.size)
      go_wp2_with fail
      refine Calls.mono (HC.out _ hb2) ?_
      rintro e w2 ⟨rfl, hb3⟩
      have hb4 := hb2.trans (hb3.mono hb2.size)
      clear hb hb1 hb2 hb3 HA HC
      by_cases hg : m.room q < m.room k
      · have HE := Lib.hid (HB.out.trans (if_pos hg))
        have hg' : (m.room q : Int) < (m.room k : Int) := by omega
        clear HB hg
        go_wp2_with fail
        go_roundw
        case rel => exact ⟨k + 1, by have := HK.out; omega, by go_num, by rw [HE.out], hb4⟩
        case measure => simp [intOf]; omega
      · have HE := Lib.hid (HB.out.trans (if_neg hg))
        have hg' : ¬ (m.room q : Int) < (m.room k : Int) := by omega
        clear HB hg
        go_wp2_with fail
        go_roundw
        case rel => exact ⟨k + 1, by have := HK.out; omega, by go_num, by rw [HE.out], hb4⟩
        case measure => simp [intOf]; omega
    · obtain rfl : k = 16 := by omega
      go_wp2_with fail
      go_ret
      exact ⟨rfl, hb⟩
theorem first_code (m : Mp) (lo n : Nat) : firstR (isN (ncodeF m) 1) lo n = firstR (m.is 0) lo n := by
  rw [show isN (ncodeF m) 1 = m.is 0 from funext fun i => isN_code (s := 0) i]
set_option maxHeartbeats 1000000 in
theorem malloc_any (h : MapAt w O g m) : Calls Try.prog 29 #[.pointer (some ⟨g, 0, none⟩)] w fun e w' => e = .returned (.tuple #[.int .i64 (nextN m : Int), .int .i64 (nextC m)]) ∧ MapAt w' O g (nextM m) ∧ Step w w' O O := by
  have HR := Lib.hid (roomiest_any h)
  have hbest : m.best < 16 := by have := best_le m 15; have : m.best = bestR m 15 := rfl; omega
  have hnx : m.next = firstR (m.is 0) (64 * m.best) 64 := rfl
  have HSm := Lib.hid (fun (i : Nat) (hi : m.next = some i) => next_some hi)
  have HH := Lib.hid h
  clear h
  have HS := Lib.hid (fun (w' : World) (hb : Below w.heap.size w w') => slab0_any g m.best hbest w' ⟨_, ((HH.out.far hb).blk.cell 0).trans (narr_at _ 0 (by omega))⟩)
  have HI := Lib.hid (fun (w' : World) (hb : Below w.heap.size w w') => index_any g (64 * m.best) 64 (1024 - 64 * m.best) (ncodeF m) 1 w' ((HH.out.far hb).cel (64 * m.best) 64 (by omega)) (by omega))
  rw [first_code, ← hnx] at HI
  have HN := Lib.hid hnx
  clear hnx
  generalize m.best = b at *
  have hb16 : (b : Int) < 16 := by omega
  have hlt := HH.out.blk.lt
  go_enter Try.func29, Try.ntmps29
  go_wp2_with fail
  refine Calls.mono HR.out ?_
  rintro e w1 ⟨rfl, hb1⟩
  go_wp2_with fail
  refine Calls.mono (HS.out _ hb1) ?_
  rintro e w2 ⟨rfl, hb2⟩
  have hb2 := hb1.trans (hb2.mono hb1.size)
  go_wp2_with fail
  refine Calls.mono (HI.out _ hb2) ?_
  rintro e w3 ⟨rfl, hb3⟩
  have hb3 := hb2.trans (hb3.mono hb2.size)
  clear HI HR hb1
  cases hx : m.next with
  | none =>
    have hi : idxF none (64 * b) = -1 := rfl
    rw [hi]
    have HX := Lib.hid hx
    clear hi hx
    go_wp2_with fail
    refine bodyPost_ret (results_tmp2 rfl _ _ _) rfl ?_
    have e1 : nextN m = 0 ∧ nextC m = 71 ∧ nextM m = m := by unfold nextN nextC nextM; rw [HX.out]; exact ⟨rfl, rfl, rfl⟩
    rw [e1.1, e1.2.1, e1.2.2]
    exact ⟨rfl, (HH.out.quiet hb3).1, (HH.out.quiet hb3).2⟩
  | some i =>
    obtain ⟨hz, h10, hd, _⟩ := HSm.out i hx
    obtain ⟨j, rfl⟩ : ∃ j, i = 64 * b + j := ⟨i - 64 * b, by omega⟩
    have hi : idxF (some (64 * b + j)) (64 * b) = (j : Int) := by unfold idxF; simp only; omega
    rw [hi]
    have HX := Lib.hid hx
    have HZ := Lib.hid hz
    have hj : (j : Int) < 64 := by omega
    have H3 := Lib.hid (HH.out.far hb3)
    have hcell := (H3.out.blk.cell (64 * b + j)).trans (narr_at (ncodeF m) (64 * b + j) h10)
    have hfz := H3.out.blk.frozen (64 * b + j)
    have HS3 := Lib.hid (HS.out _ hb3)
    clear hi hx hz hd h10 HN HS HSm
    go_wp2_with fail
    refine Calls.mono HS3.out ?_
    rintro e w4 ⟨rfl, hb4⟩
    have H4 := Lib.hid (H3.out.far hb4)
    have hlt4 := H4.out.blk.lt
    have hcell4 := (H4.out.blk.cell (64 * b + j)).trans ((H3.out.blk.cell (64 * b + j)).symm.trans hcell)
    have hfz4 := H4.out.blk.frozen (64 * b + j)
    clear hcell hfz
    go_wp2_with fail
    refine bodyPost_ret (results_tmp2 rfl _ _ _) rfl ?_
    have e1 : nextN m = 64 * b + j ∧ nextC m = 0 ∧ nextM m = m.put (64 * b + j) 1 := by unfold nextN nextC nextM; rw [HX.out]; exact ⟨rfl, rfl, rfl⟩
    rw [e1.1, e1.2.1, e1.2.2]
    obtain ⟨p1, p2⟩ := H4.out.put HZ.out (t := 1) (by omega) rfl
    have hb5 := hb3.trans (hb4.mono hb3.size)
    clear e1
    refine ⟨?_, p1, (Chg.of_below hb5).trans p2.chg fun _ _ => id, fun k hk => .inl hk⟩
    show Ending.returned (.tuple #[.int .i64 ((b : Int) * 64 + (j : Int)), .int .i64 0]) = _
    rw [show ((64 * b + j : Nat) : Int) = (b : Int) * 64 + (j : Int) by omega]
end
end Go.Proofs.Ytddhacmaogaocaa
