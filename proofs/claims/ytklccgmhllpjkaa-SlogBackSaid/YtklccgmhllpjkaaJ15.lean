/- The program's spans, all. -/
import Derived.Test.YtklccgmhllpjkaaJ14
set_option maxRecDepth 10000
namespace Go.Proofs.Ytklccgmhllpjkaa
open Go.RowKit

/-- What stands while a row of numbers grows. -/
structure NInv (w wr : World) (base : Nat) (v : Value) (l : List Int) : Prop where
  own : OwnI wr base v l
  below : Below base w wr
  le : base ≤ wr.heap.size
theorem NInv.app {w wr w' : World} {base : Nat} {v v' : Value} {l : List Int} {n : Int} (h : NInv w wr base v l) (ho : OwnI w' base v' (l ++ [n])) (hg : (wr.alloc (.cells #[.int .i64 n] 3)).grownBy w' v.ownBlock) : NInv w w' base v' (l ++ [n]) :=
  have hl : base ≤ (wr.alloc (.cells #[.int .i64 n] 3)).heap.size := by simp; have := h.le; omega
  ⟨ho, below_own (h.below.alloc h.le _) (World.ownsRow.alloc h.own _) (Nat.le_refl _) hl hg, Nat.le_trans hl hg.size⟩
theorem NInv.start (w : World) : NInv w w w.heap.size (.slice none 0 0) [] := ⟨World.ownsRow_nil _ _ _ _, Below.refl _ _, Nat.le_refl _⟩
theorem own_ints {w : World} {base : Nat} {v : Value} {l : List Int} (h : OwnI w base v l) : ∃ A c, v = .slice A l.length c ∧ Rd w w.heap.size A (ints l) ∧ l.length ≤ c := own_rd h
theorem numsTo_snoc {S : Int → Bool} {k : Nat} (h : S k = true) : numsTo S (k + 1) = numsTo S k ++ [(k : Int)] := if_pos h
theorem numsTo_same {S : Int → Bool} {k : Nat} (h : S k = false) : numsTo S (k + 1) = numsTo S k := if_neg (by rw [h]; simp)
set_option maxHeartbeats 1000000 in
theorem spans_any (g : Nat) (S : Int → Bool) (w : World) (hb : Blk w g 48 (barr S)) :
    Calls Try.prog 27 #[.slice (some ⟨g, 0, none⟩) 4096 4096] w (Gives (canon S) w) := by
  have HB := Lib.hid hb
  have HN := Lib.hid (NInv.start w)
  clear hb
  go_enter Try.func27, Try.ntmps27
  go_wp2_with fail
  generalize hbase : w.heap.size = base at *
  have HBA := Lib.hid hbase
  clear hbase
  go_loopw [3, 7] (fun v i wr => ∃ (q : Nat), q ≤ 4096 ∧ i = .int .i64 (q : Int) ∧ NInv w wr base v (numsTo S q)) (fun _ i _ => 4096 - (intOf i).toNat)
  case atStart => exact ⟨0, by omega, rfl, HN.out⟩
  case round =>
    clear HN
    obtain ⟨q, hq, rfl, hP⟩ := hrel
    have HP := Lib.hid hP
    clear hP
    have hBw : Blk wr g 48 (barr S) := HB.out.below HP.out.below (by have := HB.out.lt; rwa [HBA.out] at this)
    by_cases hlt : q < 4096
    · have hcell : wr.cell? ⟨g, q, none⟩ = some (.bool (S q)) := (hBw.cell q).trans (barr_at _ q hlt)
      have hlti : (q : Int) < 4096 := by omega
      have HQ := Lib.hid hlt
      have HL := Lib.hid (show (numsTo S q).length ≤ 1048576 by have := numsTo_len S q; omega)
      clear hlt hq hBw
      cases hS : S q with
      | true =>
        rw [hS] at hcell
        have HT := Lib.hid (numsTo_snoc hS)
        clear hS
        go_wp2_with (at_builtin; refine app_int rfl 14 16 rfl base _ (numsTo S q) rfl HP.out.own q rfl HP.out.le HL.out ?_; intro v' w' ho hgr; have HP2 := Lib.hid (HP.out.app ho hgr))
        go_roundw
        case rel => exact ⟨q + 1, HQ.out, by go_num, by rw [HT.out]; exact HP2.out⟩
        case measure => have := HQ.out; simp [intOf]; omega
      | false =>
        rw [hS] at hcell
        have HT := Lib.hid (numsTo_same hS)
        clear hS
        go_wp2_with fail
        go_roundw
        case rel => exact ⟨q + 1, HQ.out, by go_num, by rw [HT.out]; exact HP.out⟩
        case measure => have := HQ.out; simp [intOf]; omega
    · obtain rfl : q = 4096 := by omega
      obtain ⟨A, c, rfl, hrd, _⟩ := own_ints HP.out.own
      have HO := Lib.hid (of_any A c (numsTo S 4096) wr hrd (by have := numsTo_len S 4096; omega))
      have HX := Lib.hid (show Below base w wr ∧ base ≤ wr.heap.size from ⟨HP.out.below, HP.out.le⟩)
      rw [canon_nums] at HO
      clear hrd HP hq hlt hBw
      go_wp2_with (go_at_call 41; (with_reducible refine Calls.mono HO.out ?_); rintro e w2 ⟨v2, rfl, ho2, hb2⟩; have HO2 := Lib.hid ho2; have HB2 := Lib.hid (HX.out.1.trans (hb2.mono HX.out.2)); clear ho2 hb2)
      go_ret
      have HBA := HBA.out
      subst HBA
      exact gives_of rfl (own_base HO2.out HX.out.2) HB2.out

/-! ### A move for each span -/
theorem build_mv (t : Bool) (s n : Int) (w : World) : (Instr.build 54 #[(0, .bool t), (1, .agg #[.int .i64 s, .int .i64 n])]).run Try.prog w = .ok (.agg (Mv.cs ⟨t, s, n⟩).toArray) w := by
  refine run_build w _ _ _ ?_
  kernel_rfl
theorem nilM (w : World) : MInv w w w.heap.size (.slice none 0 0) [] := ⟨World.ownsRow_nil _ _ _ _, Below.refl _ _, Nat.le_refl _⟩
def GivesO (l : List Mv) (w : World) (e : Ending) (w' : World) : Prop := ∃ v, e = .returned v ∧ MInv w w' w.heap.size v l
set_option maxHeartbeats 1000000 in
theorem all_any (t : Bool) (A : Option Addr) (c : Nat) (L : List Sp) (w : World) (hs : Rd w w.heap.size A (spc L)) (hl : L.length ≤ 4097) :
    Calls Try.prog 31 #[.bool t, .slice A L.length c] w (GivesO (spM t L) w) := by
  have HS := Lib.hid hs
  have HL := Lib.hid hl
  have hli : (L.length : Int) ≤ 4097 := by omega
  have HN := Lib.hid (nilM w)
  clear hs hl
  go_enter Try.func31, Try.ntmps31
  go_wp2_with fail
  generalize hbase : w.heap.size = base at *
  have HBA := Lib.hid hbase
  clear hbase
  go_loopw [5, 10] (fun v i wr => ∃ (k : Nat), k ≤ L.length ∧ i = .int .i64 (k : Int) ∧ MInv w wr base v (spM t (L.take k))) (fun _ i _ => L.length - (intOf i).toNat)
  case atStart => exact ⟨0, Nat.zero_le _, rfl, HN.out⟩
  case round =>
    clear HN
    obtain ⟨k, hk, rfl, hI⟩ := hrel
    have HI := Lib.hid hI
    clear hI
    by_cases hlt : k < L.length
    · have hki : (k : Int) < L.length := by omega
      obtain ⟨b, off, rfl, hbB, hc1, hc2⟩ := sp_at HS.out k hlt
      rw [← HI.out.below.cell (p := ⟨b, off + k * 2, none⟩) hbB] at hc1
      rw [← HI.out.below.cell (p := ⟨b, off + k * 2 + 1, none⟩) hbB] at hc2
      have HT := Lib.hid (spM_take t L k hlt)
      have HK := Lib.hid hlt
      have HTL := Lib.hid (show (spM t (L.take k)).length ≤ 1000000 by rw [spM_len, List.length_take]; have := HL.out; omega)
      generalize L[k].1 = s at *
      generalize L[k].2 = n at *
      clear hbB hlt hk
      go_upto_region 5 with fail
      have HI6 := Lib.hid (HI.out.fresh ((Below.refl _ _).alloc (Nat.le_refl _) (.cells #[.int .i64 s, .int .i64 n] 52)))
      have d1 : (wr.alloc (.cells #[.int .i64 s, .int .i64 n] 52)).cell? ⟨wr.heap.size, 0, none⟩ = some (.int .i64 s) := (Blk.new wr _ _).cell 0
      have d2 : (wr.alloc (.cells #[.int .i64 s, .int .i64 n] 52)).cell? ⟨wr.heap.size, 1, none⟩ = some (.int .i64 n) := (Blk.new wr _ _).cell 1
      clear hc1 hc2 HI
      generalize wr.alloc (.cells #[.int .i64 s, .int .i64 n] 52) = w6 at *
      generalize wr.heap.size = g6 at *
      go_wp2_with (first
        | (refine wpList_val (by rfl) (.agg (Mv.cs ⟨t, s, n⟩).toArray) (ex_build01 (.tmp 15) (.tmp 16) rfl (.bool t) (.agg #[.int .i64 s, .int .i64 n]) _ rfl rfl (build_mv t s n _)) ?_)
        | (refine wpList_val (by rfl) (.slice (some ⟨w6.heap.size, 0, none⟩) 1 1) (ex_bslM (.tmp 17) rfl ⟨t, s, n⟩ rfl) ?_)
        | (at_builtin; refine app_mv rfl 14 18 rfl base _ _ rfl HI6.out.own ⟨t, s, n⟩ rfl HI6.out.le HTL.out ?_; intro v' w7 ho7 hg7 _; have HI7 := Lib.hid (HI6.out.app ho7 hg7)))
      go_roundw
      case rel => exact ⟨k + 1, HK.out, by go_num, by rw [HT.out]; exact HI7.out⟩
      case measure => have := HK.out; simp [intOf]; omega
    · obtain rfl : k = L.length := by omega
      rw [List.take_of_length_le (Nat.le_refl _)] at HI
      clear hk hlt
      have HBA := HBA.out
      subst HBA
      go_wp2_with fail
      go_ret
      exact ⟨_, rfl, HI.out⟩
end Go.Proofs.Ytklccgmhllpjkaa
