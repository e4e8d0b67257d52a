
/- A map's calls walked: room, slab, Count, Room. -/
import Derived.Test.YtddhacmaogaocaaN10
set_option maxRecDepth 10000
set_option maxRecDepth 10000
namespace Go.Proofs.Ytddhacmaogaocaa
open Go.RowKit

/-- Cells of states. -/
structure Cel (w : World) (g lo n : Nat) (f : Nat → Nat) : Prop where
  lt : g < w.heap.size
  at_ : ∀ j, j < n → w.cell? ⟨g, lo + j, none⟩ = some (.int .u8 ((f (lo + j) : Nat) : Int))
theorem cntR_at {p : Nat → Bool} {lo k : Nat} : cntR p lo (k + 1) = cntR p lo k + if p (lo + k) = true then 1 else 0 := rfl
def isN (f : Nat → Nat) (s i : Nat) : Bool := f i == s
set_option maxHeartbeats 1000000 in
theorem room0_any (g lo n c : Nat) (f : Nat → Nat) (w : World) (hs : Cel w g lo n f) (hn : n ≤ 1024) :
    Calls Try.prog 33 #[.slice (some ⟨g, lo, none⟩) n c] w fun e w' => e = .returned (.int .i64 (cntR (isN f 1) lo n : Int)) ∧ Below w.heap.size w w' := by
  go_enter Try.func33, Try.ntmps33
  go_wp2_with fail
  go_loopw [3, 8] (fun s i wr => ∃ (k : Nat), k ≤ n ∧ i = .int .i64 k ∧ s = .int .i64 (cntR (isN f 1) lo k : Int) ∧ Below w.heap.size w wr) (fun _ i _ => n - (intOf i).toNat)
  case atStart => exact ⟨0, by omega, rfl, rfl, Below.refl _ _⟩
  case round =>
    obtain ⟨k, hk, rfl, rfl, hb⟩ := hrel
    obtain ⟨hc, hf⟩ := bcell hb
    by_cases hlt : k < n
    · have hcell := (hc g (lo + k) hs.lt).trans (hs.at_ k hlt)
      have hle := cntR_le (isN f 1) lo k
      have hst : cntR (isN f 1) lo (k + 1) = cntR (isN f 1) lo k + if (f (lo + k) == 1) = true then 1 else 0 := rfl
      generalize f (lo + k) = x at hcell hst
      generalize cntR (isN f 1) lo k = q at *
      have HK := Lib.hid (And.intro hk hle); clear hk hle
      have hq : (q : Int) ≤ 1024 := by have := HK.out; omega
      by_cases hx : x = 1
      · subst hx
        rw [if_pos (by rfl)] at hst
        have HS := Lib.hid hst; clear hst
        go_wp2_with fail
        go_roundw
        case rel => exact ⟨k + 1, hlt, by go_num, by rw [HS.out]; go_num, hb⟩
        case measure => simp [intOf]; omega
      · rw [if_neg (by simpa using hx)] at hst
        have HS := Lib.hid hst; clear hst
        have hx' : ((x : Int) == 1) = false := by rw [beq_eq_false_iff_ne]; omega
        clear hx
        go_wp2_with fail
        go_roundw
        case rel => exact ⟨k + 1, hlt, by go_num, by rw [HS.out, Nat.add_zero], hb⟩
        case measure => simp [intOf]; omega
    · obtain rfl : k = n := by omega
      go_wp2_with fail
      go_ret
      exact ⟨rfl, hb⟩
theorem addr_flat (b off j : Nat) : (⟨b, off, none⟩ : Addr).add j = ⟨b, off + j, none⟩ := by unfold Addr.add; split <;> simp_all
theorem sizeSt : (Try.prog.info? 73).map (·.size) = some 1 := by kernel_rfl
theorem run_sizeSt (w : World) : (sizeOf (Try.prog.elem 74)).run Try.prog w = .ok 1 w := by
  obtain ⟨i, hi, hz⟩ := Option.map_eq_some_iff.1 sizeSt
  have he : Try.prog.elem 74 = 73 := by simp [Program.elem, Try.underlying74]
  rw [he]
  simp [sizeOf, typeInfo, hi, hz]
theorem arrLenSt : Try.prog.arrayLen 74 = 1024 := by simp [Program.arrayLen, Try.underlying74]
theorem run_cut (g k : Nat) (hk : k < 16) (w : World) :
    (Instr.sliceAt 74 (.pointer (some ⟨g, 0, none⟩)) (some (.int .i64 ((k : Int) * 64))) (some (.int .i64 ((k : Int) * 64 + 64))) none).run Try.prog w = .ok (.slice (some ⟨g, 64 * k, none⟩) 64 (1024 - 64 * k)) w := by
  rw [run_sliceAt_array_lh w _ ⟨g, 0, none⟩ (by simp [Program.arrayLen, Program.elem, Try.underlying74]) .i64 .i64 ((k : Int) * 64) ((k : Int) * 64 + 64) (by omega) (by omega) (by rw [arrLenSt]; omega), run_sizeSt]
  have e1 : ((k : Int) * 64).toNat = 64 * k := by omega
  have e2 : ((k : Int) * 64 + 64).toNat = 64 * k + 64 := by omega
  simp only [Result.andThen_ok, slicedAt, arrLenSt, e1, e2, Nat.mul_one]
  rw [if_neg (by omega), show 64 * k + 64 - 64 * k = 64 by omega, addr_flat, Nat.zero_add]
theorem run_whole (g : Nat) (w : World) :
    (Instr.sliceAt 74 (.pointer (some ⟨g, 0, none⟩)) none none none).run Try.prog w = .ok (.slice (some ⟨g, 0, none⟩) 1024 1024) w := by
  rw [run_sliceAt_array_all w _ ⟨g, 0, none⟩ (by simp [Program.arrayLen, Program.elem, Try.underlying74]), run_sizeSt]
  simp only [Result.andThen_ok, slicedAt, arrLenSt, Nat.zero_mul]
  rw [if_neg (by omega), addr_flat, Nat.zero_add]
/-- The slice that a slab is. -/
theorem slab0_any (g : Nat) (k : Nat) (hk : k < 16) (w : World) (hc0 : ∃ v, w.cell? ⟨g, 0, none⟩ = some v) :
    Calls Try.prog 42 #[.pointer (some ⟨g, 0, none⟩), .int .i64 (k : Int)] w fun e w' => e = .returned (.slice (some ⟨g, 64 * k, none⟩) 64 (1024 - 64 * k)) ∧ Below w.heap.size w w' := by
  have hs := run_cut g k hk
  have hk' : (k : Int) < 16 := by omega
  obtain ⟨v, hc0⟩ := hc0
  clear hk
  go_enter Try.func42, Try.ntmps42
  go_wp2_with fail
  go_ret
  exact ⟨rfl, Below.refl _ _⟩
theorem MapAt.cel {w : World} {O : Nat → Prop} {g : Nat} {m : Mp} (h : MapAt w O g m) (lo n : Nat) (hn : lo + n ≤ 1024) : Cel w g lo n (ncodeF m) := ⟨h.blk.lt, fun j hj => (h.blk.cell _).trans (narr_at _ _ (by omega))⟩
theorem isN_code {m : Mp} {s : Nat} : ∀ i, isN (ncodeF m) (s + 1) i = m.is s i := fun i => by
  unfold isN
  cases h : m.is s i with
  | true => rw [codeF_is.2 h]; simp
  | false =>
    rw [beq_eq_false_iff_ne]
    intro e
    rw [codeF_is.1 e] at h
    cases h
theorem cnt_code (m : Mp) (lo n : Nat) : cntR (isN (ncodeF m) 1) lo n = cntR (m.is 0) lo n := cntR_congr fun i _ _ => isN_code (s := 0) i
section
variable {w : World} {O : Nat → Prop} {g : Nat} {m : Mp}
theorem mcount_any (h : MapAt w O g m) : Calls Try.prog 17 #[.pointer (some ⟨g, 0, none⟩)] w fun e w' => e = .returned (.int .i64 (m.count : Int)) ∧ Below w.heap.size w w' := by
  have hs := run_whole g
  have hlt := h.blk.lt
  have hc0 := (h.blk.cell 0).trans (narr_at _ 0 (by omega))
  have HC := Lib.hid (room0_any g 0 1024 1024 (ncodeF m) w (h.cel 0 1024 (by omega)) (by omega))
  rw [cnt_code] at HC
  go_enter Try.func17, Try.ntmps17
  go_wp2_with fail
  refine Calls.mono HC.out ?_
  rintro e w1 ⟨rfl, hb⟩
  go_wp2_with fail
  go_ret
  exact ⟨rfl, hb⟩
theorem mroom_any (k : Int) (hk : I64 k) (h : MapAt w O g m) : Calls Try.prog 47 #[.pointer (some ⟨g, 0, none⟩), .int .i64 k] w fun e w' => e = .returned (.int .i64 (m.roomI k : Int)) ∧ Below w.heap.size w w' := by
  have hlt := h.blk.lt
  obtain ⟨hk1, hk2⟩ := hk
  by_cases hr : 0 ≤ k ∧ k < 16
  · obtain ⟨n, rfl⟩ := Int.eq_ofNat_of_zero_le hr.1
    have hn : n < 16 := by omega
    have HS := Lib.hid (slab0_any g n hn w ⟨_, (h.blk.cell 0).trans (narr_at _ 0 (by omega))⟩)
    have hm : m.roomI (n : Int) = cntR (isN (ncodeF m) 1) (64 * n) 64 := by
      unfold Mp.roomI
      rw [if_pos hr, cnt_code]
      rfl
    have HM := Lib.hid hm
    have h0 : (0 : Int) ≤ n := hr.1
    have h1 : (n : Int) < 16 := hr.2
    clear hr hm
    go_enter Try.func47, Try.ntmps47
    go_wp2_with fail
    refine Calls.mono HS.out ?_
    rintro e w1 ⟨rfl, hb⟩
    have HC := Lib.hid (room0_any g (64 * n) 64 (1024 - 64 * n) (ncodeF m) w1 ((h.far hb).cel (64 * n) 64 (by omega)) (by omega))
    go_wp2_with fail
    refine Calls.mono HC.out ?_
    rintro e w2 ⟨rfl, hb2⟩
    go_wp2_with fail
    go_ret
    exact ⟨ret_int (by rw [HM.out]), hb.trans (hb2.mono hb.size)⟩
  · have hm : m.roomI k = 0 := by unfold Mp.roomI; rw [if_neg hr]
    rw [hm]
    rcases (by omega : k < 0 ∨ 16 ≤ k) with h1 | h1
    · go_enter Try.func47, Try.ntmps47
      go_wp2_with fail
      go_ret
      exact ⟨rfl, Below.refl _ _⟩
    · have h0 : ¬ k < 0 := by omega
      go_enter Try.func47, Try.ntmps47
      go_wp2_with fail
      go_ret
      exact ⟨rfl, Below.refl _ _⟩
end
end Go.Proofs.Ytddhacmaogaocaa
