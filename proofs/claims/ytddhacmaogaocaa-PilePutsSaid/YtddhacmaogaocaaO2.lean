/- A pile's calls as they are to be, whatever lies behind a pile; the reference's Block. -/
import Derived.Test.YtddhacmaogaocaaO1
import Derived.Test.YtddhacmaogaocaaQ3
import Derived.Test.YtddhacmaogaocaaQ5
import Derived.Test.YtddhacmaogaocaaB
import Derived.Test.YtddhacmaogaocaaV11
import Derived.Test.YtddhacmaogaocaaN10
set_option maxRecDepth 10000
namespace Go.Proofs.Ytddhacmaogaocaa
open Go.RowKit

abbrev ptq (q : PtrV) : Value := ptv q.1 q.2.1 q.2.2
def PtrOk (q : PtrV) : Prop := IsPtr q.1 q.2.1 q.2.2
/-- The calls of package pile as the document has them, whatever lies behind a pile: 'At w O g P' says that the block g of w is a pile of which P can be told, in the blocks O. -/
structure PileCalls (At : World → (Nat → Prop) → Nat → Pw → Prop) : Prop where
  foot : ∀ {w O g P}, At w O g P → ∀ k, O k → k < w.heap.size
  wf : ∀ {w O g P}, At w O g P → P.m.tot ≤ P.nw.length ∧ P.m.tot ≤ 1024 ∧ (∀ i, P.m.st i ≤ 2) ∧ P.st < 18446744073709551616 ∧ P.ba < 18446744073709551616
  stay : ∀ {w w' O O2 g P}, At w O g P → Chg w w' O2 → (∀ k, O k → ¬ O2 k) → At w' O g P
  made : ∀ (x : Int) (w : World), I64 x → Calls Try.prog 7 #[.int .i64 x] w fun e w' => ∃ O g, e = .returned (.pointer (some ⟨g, 0, none⟩)) ∧ At w' O g (newPw x) ∧ (∀ k, O k → w.heap.size ≤ k) ∧ Below w.heap.size w w'
  put : ∀ {w O g P} (A : Option Addr) (c : Nat) (l : List UInt8), At w O g P → RdA w O A (bys l) → l.length ≤ 140737488355328 → P.N ≤ 1000000 → Calls Try.prog 11 #[.pointer (some ⟨g, 0, none⟩), .slice A l.length c] w fun e w' => ∃ O', e = .returned (.tuple #[ptq (putQ P l), .int .i64 (putC P l)]) ∧ At w' O' g (putP P l) ∧ Step w w' O O'
  putAt : ∀ {w O g P} (i : Int) (A : Option Addr) (c : Nat) (l : List UInt8), I64 i → At w O g P → RdA w O A (bys l) → l.length ≤ 140737488355328 → P.N ≤ 1000000 → Calls Try.prog 20 #[.pointer (some ⟨g, 0, none⟩), .int .i64 i, .slice A l.length c] w fun e w' => ∃ O', e = .returned (.tuple #[ptq (putAtQ P i l), .int .i64 (putAtC P i l)]) ∧ At w' O' g (putAtP P i l) ∧ Step w w' O O'
  get : ∀ {w O g P} (q : PtrV), PtrOk q → At w O g P → Calls Try.prog 8 #[.pointer (some ⟨g, 0, none⟩), ptq q] w fun e w' => ∃ O', e = .returned (.tuple #[.agg (getS P q).1.cs.toArray, .int .i64 (getS P q).2]) ∧ At w' O' g P ∧ Step w w' O O'
  drop : ∀ {w O g P} (q : PtrV), PtrOk q → At w O g P → Calls Try.prog 10 #[.pointer (some ⟨g, 0, none⟩), ptq q] w fun e w' => ∃ O', e = .returned (.int .i64 (dropC P q)) ∧ At w' O' g (dropP P q) ∧ Step w w' O O'
  commit : ∀ {w O g P}, At w O g P → P.st + 1 < 18446744073709551616 → Calls Try.prog 15 #[.pointer (some ⟨g, 0, none⟩)] w fun e w' => ∃ O', e = .returned (.tuple #[]) ∧ At w' O' g (comP P) ∧ Step w w' O O'
  stamp : ∀ {w O g P}, At w O g P → Calls Try.prog 19 #[.pointer (some ⟨g, 0, none⟩)] w fun e w' => ∃ O', e = .returned (.int .u64 (P.st : Int)) ∧ At w' O' g P ∧ Step w w' O O'
  base : ∀ {w O g P}, At w O g P → Calls Try.prog 18 #[.pointer (some ⟨g, 0, none⟩)] w fun e w' => ∃ O', e = .returned (.int .u64 (P.ba : Int)) ∧ At w' O' g P ∧ Step w w' O O'
  map : ∀ {w O g P}, At w O g P → ∃ gm, Calls Try.prog 16 #[.pointer (some ⟨g, 0, none⟩)] w fun e w' => e = .returned (.pointer (some ⟨gm, 0, none⟩)) ∧ Below w.heap.size w w' ∧
    ∀ w2, Below w'.heap.size w' w2 → Calls Try.prog 17 #[.pointer (some ⟨gm, 0, none⟩)] w2 fun e w3 => e = .returned (.int .i64 (P.m.count : Int)) ∧ Below w2.heap.size w2 w3
  dev : ∀ {w O g P}, At w O g P → P.N ≤ 1000000 → ∃ dg, Calls Try.prog 12 #[.pointer (some ⟨g, 0, none⟩)] w fun e w' => e = .returned (.pointer (some ⟨dg, 0, none⟩)) ∧ Below w.heap.size w w' ∧
    ∀ w2 (i : Int) (x : Sec), I64 i → Below w'.heap.size w' w2 → Calls Try.prog 13 #[.pointer (some ⟨dg, 0, none⟩), .int .i64 i, .agg x.cs.toArray] w2 fun e w3 => ∃ O' v, e = .returned v ∧ At w3 O' g (rotW P i x) ∧ Step w2 w3 O O'
section
variable {At : World → (Nat → Prop) → Nat → Pw → Prop}
/-- A pile that a law has made, since the world w0. -/
structure HasP (At : World → (Nat → Prop) → Nat → Pw → Prop) (w0 w : World) (O : Nat → Prop) (g : Nat) (P : Pw) : Prop where
  at_ : At w O g P
  lo : ∀ k, O k → w0.heap.size ≤ k
  below : Below w0.heap.size w0 w
variable {w0 w w' : World} {O O' : Nat → Prop} {g : Nat} {P P' : Pw}
theorem HasP.step (h : HasP At w0 w O g P) (k : At w' O' g P') (s : Step w w' O O') : HasP At w0 w' O' g P' :=
  ⟨k, fun j hj => (s.new j hj).elim (h.lo j) fun h2 => Nat.le_trans h.below.size h2, h.below.trans (s.chg.below h.lo h.below.size)⟩
theorem HasP.far (L : PileCalls At) (h : HasP At w0 w O g P) (hb : Below w.heap.size w w') : HasP At w0 w' O g P :=
  ⟨L.stay h.at_ (Chg.of_below (O := fun _ => False) hb) (fun _ _ => id), h.lo, h.below.trans (hb.mono h.below.size)⟩
theorem HasP.first (hb : Below w0.heap.size w0 w) (h : At w' O g P) (hO : ∀ k, O k → w.heap.size ≤ k) (hb' : Below w.heap.size w w') : HasP At w0 w' O g P :=
  ⟨h, fun k hk => Nat.le_trans hb.size (hO k hk), hb.trans (hb'.mono hb.size)⟩
end

/-! ### The reference's Block -/
def blkK (l : List UInt8) (k : Nat) : Sec := blockS (l.take k)
theorem blkK_zero (l : List UInt8) : blkK l 0 = zsec := by kernel_rfl
theorem blockS_cs (l : List UInt8) (j : Nat) (hj : j < 128) : (blockS l).cs[j]? = some (.int .u8 ((l.getD j 0).toNat : Int)) := by
  rw [Sec.at_ _ j hj, blockS_at l j hj]
theorem blkK_all {l : List UInt8} {k : Nat} (h : l.length ≤ k ∨ 128 ≤ k) : blkK l k = blockS l := by
  refine Sec.eq ?_
  rcases h with h | h
  · unfold blkK
    rw [List.take_of_length_le h]
  · refine List.ext_getElem (by rw [(blkK l k).h, (blockS l).h]) fun j h1 h2 => ?_
    have hj : j < 128 := by rw [(blockS l).h] at h2; exact h2
    rw [blockS_at l j hj]
    refine (blockS_at (l.take k) j hj).trans ?_
    simp only [List.getD, List.getElem?_take]
    rw [if_pos (by omega)]
theorem blkK_set {l : List UInt8} {k : Nat} (hk : k < l.length) (h8 : k < 128) : (blkK l k).cs.toArray.setIfInBounds k (.int .u8 (l[k].toNat : Int)) = (blkK l (k + 1)).cs.toArray := by
  refine Array.ext_getElem? fun j => ?_
  rw [Array.getElem?_setIfInBounds, List.getElem?_toArray, List.getElem?_toArray, List.size_toArray, Sec.cs_len]
  by_cases hj : j < 128
  · have e1 : (blkK l k).cs[j]? = _ := blockS_cs (l.take k) j hj
    have e2 : (blkK l (k + 1)).cs[j]? = _ := blockS_cs (l.take (k + 1)) j hj
    rw [e1, e2]
    simp only [List.getD, List.getElem?_take]
    by_cases h : k = j
    · subst h
      rw [if_pos rfl, if_pos hj, if_pos (by omega), List.getElem?_eq_getElem hk]
      rfl
    · rw [if_neg h]
      by_cases h2 : j < k
      · rw [if_pos h2, if_pos (by omega)]
      · rw [if_neg h2, if_neg (by omega)]
  · rw [if_neg (by omega), List.getElem?_eq_none (by rw [Sec.cs_len]; omega), List.getElem?_eq_none (by rw [Sec.cs_len]; omega)]
set_option maxHeartbeats 1000000 in
theorem rblock_any (A : Option Addr) (c : Nat) (l : List UInt8) (w : World) (hs : Rd w w.heap.size A (bys l)) (hl : l.length ≤ 140737488355328) :
    Calls Try.prog 14 #[.slice A l.length c] w fun e w' => e = .returned (.agg (blockS l).cs.toArray) ∧ Below w.heap.size w w' := by
  have hz : ∀ w, Sem.run Try.prog (zeroValue 23) w = .ok (.agg zsec.cs.toArray) w := zeroSec
  have hbd : ∀ w, (Instr.build 23 #[]).run Try.prog w = .ok (.agg zsec.cs.toArray) w := buildZ
  go_enter Try.func14, Try.ntmps14
  have hn : Hid (Blk ((w.alloc (.cells zsec.cs.toArray 23)).alloc (.cells zsec.cs.toArray 23)) (w.heap.size + 1) 23 zsec.cs.toArray) := by
    have h := Blk.new (w.alloc (.cells zsec.cs.toArray 23)) 23 zsec.cs.toArray
    rw [show (w.alloc (.cells zsec.cs.toArray 23)).heap.size = w.heap.size + 1 by simp] at h
    exact h
  have hn0 : Hid (Blk ((w.alloc (.cells zsec.cs.toArray 23)).alloc (.cells zsec.cs.toArray 23)) w.heap.size 23 zsec.cs.toArray) :=
    (Blk.new w _ _).below (B := w.heap.size + 1) ((Below.refl _ _).alloc (by simp) _) (by omega)
  have hb0 : Hid (Below w.heap.size w ((w.alloc (.cells zsec.cs.toArray 23)).alloc (.cells zsec.cs.toArray 23))) := ((Below.refl _ _).alloc (Nat.le_refl _) _).alloc (by simp) _
  go_wp2_with ((with_reducible refine st_sec rfl _ _ rfl (w.heap.size + 1) 0 zsec rfl rfl hn.out.secHas ?_); intro w1 hw1)
  have hB1 : Blk w1 (w.heap.size + 1) 23 zsec.cs.toArray := by rw [hw1.out]; exact hn.out.secAll zsec
  have hB0 : Blk w1 w.heap.size 23 zsec.cs.toArray := by
    rw [hw1.out]
    exact hn0.out.below (B := w.heap.size + 1) (Below.setCells _ (Nat.le_refl _) _ _ (Below.refl _ _)) (by omega)
  have hb1 : Below w.heap.size w w1 := by rw [hw1.out]; exact Below.setCells _ (by omega) _ _ hb0.out
  clear hw1 hn hn0 hb0 hz hbd
  go_loopw [4] (fun i wr => ∃ (k : Nat), k ≤ l.length ∧ k ≤ 128 ∧ i = .int .i64 k ∧ Blk wr (w.heap.size + 1) 23 (blkK l k).cs.toArray ∧ Blk wr w.heap.size 23 zsec.cs.toArray ∧ Below w.heap.size w wr) (fun i _ => 128 - (intOf i).toNat)
  case atStart => exact ⟨0, by omega, by omega, rfl, by rw [blkK_zero]; exact hB1, hB0, hb1⟩
  case round =>
    clear hB1 hB0 hb1
    obtain ⟨k, hk, hk8, rfl, hbl, hbr, hb⟩ := hrel
    have hsz := hbl.lt
    obtain ⟨hc, hf⟩ := bcell hb
    by_cases hlt : k < l.length
    · by_cases h8 : k < 128
      · obtain ⟨b, off, rfl, hbB, hc1⟩ := by_at hs k hlt
        have HS := Lib.hid (blkK_set hlt h8)
        generalize l[k] = x at *
        obtain ⟨y, hold⟩ : ∃ y : Int, wr.cell? ⟨w.heap.size + 1, k, none⟩ = some (.int .u8 y) := ⟨_, (hbl.cell k).trans (by rw [List.getElem?_toArray]; exact Sec.at_ _ k h8)⟩
        have hfz := hbl.frozen k
        have h8' : (k : Int) < 128 := by omega
        have HK := Lib.hid (And.intro hk hk8); clear hk hk8
        go_wp2_with fail
        go_roundw
        case rel => exact ⟨k + 1, hlt, by omega, by go_num, by rw [← HS.out]; exact hbl.set_ k _, hbr.far (by simp) _, hb.setCell (by simp) _⟩
        case measure => simp [intOf]; omega
      · have HE := Lib.hid (blkK_all (l := l) (k := k) (.inr (by omega)))
        have h8' : ¬ (k : Int) < 128 := by omega
        go_wp2_with (first
          | (with_reducible refine ld_sec rfl _ rfl (w.heap.size + 1) 0 (blkK l k) rfl hbl.secIs ?_)
          | ((with_reducible refine st_sec rfl _ _ rfl w.heap.size 0 (blkK l k) rfl rfl hbr.secHas ?_); intro w2 hw2))
        have hb2 : Blk w2 w.heap.size 23 (blkK l k).cs.toArray := by rw [hw2.out]; exact hbr.secAll _
        refine bodyPost_ret (results_cell_row rfl _ _ _ _ _ _ _ rfl hb2 Try.underlying23 rfl (sizeSec'' _)) rfl ⟨by rw [HE.out], by rw [hw2.out]; exact Below.setCells _ (Nat.le_refl _) _ _ hb⟩
    · have HE := Lib.hid (blkK_all (l := l) (k := k) (.inl (by omega)))
      go_wp2_with (first
        | (with_reducible refine ld_sec rfl _ rfl (w.heap.size + 1) 0 (blkK l k) rfl hbl.secIs ?_)
        | ((with_reducible refine st_sec rfl _ _ rfl w.heap.size 0 (blkK l k) rfl rfl hbr.secHas ?_); intro w2 hw2))
      have hb2 : Blk w2 w.heap.size 23 (blkK l k).cs.toArray := by rw [hw2.out]; exact hbr.secAll _
      refine bodyPost_ret (results_cell_row rfl _ _ _ _ _ _ _ rfl hb2 Try.underlying23 rfl (sizeSec'' _)) rfl ⟨by rw [HE.out], by rw [hw2.out]; exact Below.setCells _ (Nat.le_refl _) _ _ hb⟩
end Go.Proofs.Ytddhacmaogaocaa
