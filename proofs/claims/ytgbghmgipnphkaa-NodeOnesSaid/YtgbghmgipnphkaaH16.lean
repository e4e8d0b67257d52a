/- The node's calls: Bytes (of a node as one may write it). -/
import Derived.Test.YtgbghmgipnphkaaH15
import Derived.Lib.LazyBuf
import Derived.Laws.IdiomCopy
import Derived.Deep.RegionHeld3
set_option maxRecDepth 10000
namespace Go.Proofs.Ytgbghmgipnphkaa
open Go.RowKit

/-- A list written over from a place on. -/
def spl (L : List UInt8) (k : Nat) (l : List UInt8) : List UInt8 := L.take k ++ (l ++ L.drop (k + l.length))
theorem spl_len {L l : List UInt8} {k : Nat} (h : k + l.length ≤ L.length) : (spl L k l).length = L.length := by
  simp only [spl, List.length_append, List.length_take, List.length_drop]
  omega
theorem spl_end {P l : List UInt8} {k m j : Nat} (hk : P.length = k) (hj : m = l.length + j) : spl (P ++ List.replicate m 0) k l = (P ++ l) ++ List.replicate j 0 := by
  subst hk hj
  unfold spl
  rw [List.take_left' rfl, ← List.drop_drop, List.drop_left' rfl, List.drop_replicate, Nat.add_sub_cancel_left, List.append_assoc]
theorem spl_at {L l : List UInt8} {k : Nat} (h : k + l.length ≤ L.length) (i : Nat) : (spl L k l)[i]? = if k ≤ i ∧ i < k + l.length then l[i - k]? else L[i]? := by
  unfold spl
  by_cases h1 : i < k
  · rw [if_neg (by omega), List.getElem?_append_left (by rw [List.length_take]; omega), List.getElem?_take, if_pos h1]
  · rw [List.getElem?_append_right (by rw [List.length_take]; omega), List.length_take, Nat.min_eq_left (by omega)]
    by_cases h2 : i < k + l.length
    · rw [if_pos (by omega), List.getElem?_append_left (by omega)]
    · rw [if_neg (by omega), List.getElem?_append_right (by omega), List.getElem?_drop]
      congr 1
      omega
theorem bys_get (l : List UInt8) (i : Nat) : (bys l)[i]? = l[i]?.map fun b : UInt8 => .int .u8 (b.toNat : Int) := by simp [bys]
theorem Blk.spl {w : World} {g : Nat} {t : TypeId} {L : List UInt8} (h : Blk w g t (bys L).toArray) (k : Nat) (l : List UInt8) (hk : k + l.length ≤ L.length) : Blk (w.setCells g k (bys l)) g t (bys (spl L k l)).toArray :=
  h.setTo _ _ (by rw [bys_len, List.size_toArray, bys_len]; exact hk) fun i => by
    rw [List.getElem?_toArray, List.getElem?_toArray, bys_len, bys_get, bys_get, bys_get, spl_at hk]
    split <;> rfl
theorem infoB1 : (Try.prog.info? 5).map (·.size) = some 1 := by kernel_rfl
/-- copy of bytes into a block of bytes. -/
theorem cp_bys {ops : Array Oper} {rest : List Oper} {o : Oper} {a : Act} {w : World} {Q : Exit → Act → World → Prop} (hgd : o.guard = none) (x y : Operand)
    (ho : o.op = .call { callee := .builtin .copy, args := #[x, y], argTypes := #[46, 46] }) (g k m c n c' B : Nat) (A : Option Addr) (t : TypeId) (L l L' : List UInt8) (hL : spl L k l = L')
    (hx : a.eval x = .slice (some ⟨g, k, none⟩) m c) (hy : a.eval y = .slice A n c') (hB : Blk w g t (bys L).toArray) (hr : Rd w B A (bys l)) (hn : l.length = n) (h0 : 0 < n) (hnm : n ≤ m) (hk : k + n ≤ L.length)
    (h : ∀ w', Hid (Blk w' g t (bys L').toArray ∧ Chg w w' (· = g)) → wpList Try.prog ops Q rest (a.put o.dst (goInt n)) w') : wpList Try.prog ops Q (o :: rest) a w := by
  subst hn hL
  obtain ⟨b, off, rfl, _, hc⟩ := hr (by rw [bys_len]; exact h0)
  have ht := hB.there k l.length (by rw [List.size_toArray, bys_len]; exact hk)
  have hrun := run_copy_cells (P := Try.prog) w 46 46 o.type 5 g k m c ⟨b, off, none⟩ l.length c' (bys l) Try.underlying46 infoB1 (by rw [bys_len]; exact (Nat.min_eq_left hnm).symm)
    (fun j v hv => by rw [Addr.add_mid]; exact hc j v hv) (fun j hj => (ht j (by rwa [bys_len] at hj)).1) (fun j hj => (ht j (by rwa [bys_len] at hj)).2) bys_one
  rw [bys_len] at hrun
  refine wpList_plain hgd fun _ hK => ?_
  unfold Oper.wp execOp
  simp only [ho, resolve, invoke, builtin, Sem.run_bind, Sem.run_pure, Result.andThen_ok, List.map_toArray, List.map_cons, List.map_nil, hx, hy, hrun]
  exact hK _ _ (h _ ⟨hB.spl k l hk, Chg.setCells (O := (· = g)) (.inl rfl) _ _ (Chg.refl _ _)⟩)
def fillK (p : P8) (k : Nat) : List UInt8 := (p.l.take k).flatMap bsQ ++ List.replicate (128 - 16 * k) 0
theorem fillK_zero (p : P8) : bys (fillK p 0) = zsec.cs := rfl
theorem fill_pre {p : P8} {k : Nat} (hk : k ≤ 8) (h : (p.l.take k).all rightQ = true) : ((p.l.take k).flatMap bsQ).length = 16 * k := by
  rw [flat_bs h, List.length_take, p.h]
  omega
theorem fill_len {p : P8} {k : Nat} (hk : k ≤ 8) (h : (p.l.take k).all rightQ = true) : (fillK p k).length = 128 := by
  unfold fillK
  rw [List.length_append, fill_pre hk h, List.length_replicate]
  omega
theorem fill_step {p : P8} {k : Nat} (hk : k < 8) (h : (p.l.take k).all rightQ = true) (hr : rightQ (p.at_ k) = true) : spl (fillK p k) (16 * k) (bsQ (p.at_ k)) = fillK p (k + 1) := by
  have hkl : k < p.l.length := by rw [p.h]; exact hk
  unfold fillK
  rw [spl_end (j := 128 - 16 * (k + 1)) (fill_pre (by omega) h) (by rw [bsQ_len hr]; omega), take8 p.l k hkl, List.flatMap_append, at_eq p k hk]
  simp
theorem fill_all {p : P8} (h : all8 p = true) : bys (fillK p 8) = (nbS p).cs := by
  have e : (nbS p).l = fillK p 8 := by
    rw [nbS_yes h]
    unfold fillK
    rw [List.take_of_length_le (by rw [p.h]; omega)]
    simp
  show _ = bys (nbS p).l
  rw [e]
theorem run_cut8l (g k : Nat) (hk : k < 8) (w : World) :
    (Instr.sliceAt 23 (.pointer (some ⟨g, 0, none⟩)) (some (.int .i64 ((k : Int) * 16))) none none).run Try.prog w = .ok (.slice (some ⟨g, 16 * k, none⟩) (128 - 16 * k) (128 - 16 * k)) w := by
  rw [show (k : Int) * 16 = 16 * (k : Int) by omega, run_sliceAt_array_l w _ ⟨g, 0, none⟩ (by simp [Program.arrayLen, Program.elem, Try.underlying23]) .i64 (16 * (k : Int)) (by omega) (by rw [arrLenSec]; omega), run_sizeSecE]
  have e1 : (16 * (k : Int)).toNat = 16 * k := by omega
  simp only [Result.andThen_ok, slicedAt, arrLenSec, e1, Nat.mul_one]
  rw [if_neg (by omega), addr_flat, Nat.zero_add]
set_option maxHeartbeats 2000000 in
theorem nnbytes_any (p : P8) (hp : p.ok) (w : World) : Calls Try.prog 9 #[.agg p.cs.toArray] w fun e w' => e = .returned (.tuple #[.agg (nbS p).cs.toArray, .int .i64 (nbC p)]) ∧ Below w.heap.size w w' := by
  have hz : ∀ w, Sem.run Try.prog (zeroValue 23) w = .ok (.agg zsec.cs.toArray) w := zeroSec
  go_enter Try.func9, Try.ntmps9
  have hbl : Blk (((w.alloc (.cells p.cs.toArray 31)).alloc (.cells zsec.cs.toArray 23)).alloc (.cells zsec.cs.toArray 23)) w.heap.size 31 p.cs.toArray := (Blk.new w _ _).below (B := w.heap.size + 1) (((Below.refl _ _).alloc (by simp) _).alloc (by simp) _) (by omega)
  have hbz : Blk (((w.alloc (.cells p.cs.toArray 31)).alloc (.cells zsec.cs.toArray 23)).alloc (.cells zsec.cs.toArray 23)) (w.heap.size + 1) 23 zsec.cs.toArray := by
    have h := Blk.new (w.alloc (.cells p.cs.toArray 31)) 23 zsec.cs.toArray
    rw [show (w.alloc (.cells p.cs.toArray 31)).heap.size = w.heap.size + 1 by simp] at h
    exact h.below (B := w.heap.size + 2) ((Below.refl _ _).alloc (by simp) _) (by omega)
  have hbs : Blk (((w.alloc (.cells p.cs.toArray 31)).alloc (.cells zsec.cs.toArray 23)).alloc (.cells zsec.cs.toArray 23)) (w.heap.size + 2) 23 zsec.cs.toArray := by
    have h := Blk.new ((w.alloc (.cells p.cs.toArray 31)).alloc (.cells zsec.cs.toArray 23)) 23 zsec.cs.toArray
    rw [show ((w.alloc (.cells p.cs.toArray 31)).alloc (.cells zsec.cs.toArray 23)).heap.size = w.heap.size + 2 by simp] at h
    exact h
  have hb0 : Below w.heap.size w (((w.alloc (.cells p.cs.toArray 31)).alloc (.cells zsec.cs.toArray 23)).alloc (.cells zsec.cs.toArray 23)) := (((Below.refl _ _).alloc (Nat.le_refl _) _).alloc (by simp) _).alloc (by simp; omega) _
  have H0 := Lib.hid (And.intro hbl (And.intro hbz (And.intro hbs hb0)))
  clear hbl hbz hbs hb0
  go_wp2_with ((with_reducible refine ld_p8 rfl _ rfl w.heap.size 0 p rfl H0.out.1.p8Is ?_))
  go_loopw [10] (fun i wr => ∃ k : Nat, k ≤ 8 ∧ i = .int .i64 k ∧ (p.l.take k).all rightQ = true ∧ Blk wr (w.heap.size + 1) 23 zsec.cs.toArray ∧ Blk wr (w.heap.size + 2) 23 (bys (fillK p k)).toArray ∧ Below w.heap.size w wr) (fun i _ => 8 - (intOf i).toNat)
  case atStart => exact ⟨0, by omega, rfl, rfl, H0.out.2.1, by rw [fillK_zero]; exact H0.out.2.2.1, H0.out.2.2.2⟩
  case round =>
    clear H0
    obtain ⟨k, hk, rfl, hall, hbz, hbs, hb⟩ := hrel
    by_cases hlt : k < 8
    · have hkl : k < p.l.length := by rw [p.h]; exact hlt
      have hst : (p.l.take (k + 1)).all rightQ = rightQ (p.at_ k) := by
        rw [take8 p.l k hkl, List.all_append, hall, at_eq p k hlt]
        simp
      have hem : rightQ (p.at_ k) = false → all8 p = false := fun h => by
        rw [Bool.eq_false_iff]
        intro e
        rw [all8_at e k hlt] at h
        cases h
      have hfs := fun h => fill_step (p := p) hlt hall h
      have hfl := fill_len (p := p) (k := k) (by omega) hall
      have HI := Lib.hid (fun (o : Oper) (a : Act) (w : World) (ho : o.op = .index 31 (.tmp 9) (.tmp 10)) => ex_ixP8 (o := o) (a := a) (w := w) (.tmp 9) (.tmp 10) ho p k hlt)
      have HB := Lib.hid (bytes_any (hp _ (p.at_mem k hlt)))
      generalize p.at_ k = q at *
      obtain ⟨q1, q2, q3⟩ := q
      simp only at HI HB
      have hb5 : Below wr.heap.size wr (wr.alloc (.cells (pcs q1 q2 q3) 30)) := (Below.refl _ _).alloc (Nat.le_refl _) _
      have H1 := Lib.hid (And.intro (hbz.below hb5 hbz.lt) (And.intro (hbs.below hb5 hbs.lt) (And.intro (hb.trans (hb5.mono hb.size)) (Blk.new wr 30 (pcs q1 q2 q3)))))
      have hzp := zeroPtr8
      have hk8 : (k : Int) < 8 := by omega
      have hk0 : (0 : Int) ≤ (k : Int) := by omega
      have hsz := hbs.lt
      clear hbz hbs hb hall hb5
      go_wp2_with (first
        | (refine wpList_val (by rfl) _ (HI.out _ _ _ rfl rfl rfl) ?_)
        | (refine wpList_val (by rfl) _ (ex_ldPq (.tmp 6) rfl wr.heap.size q1 q2 q3 rfl H1.out.2.2.2) ?_))
      refine Calls.mono (HB.out _) ?_
      rintro e w4 ⟨A, c, rfl, hrd, hc, hb4⟩
      have H4 := Lib.hid (And.intro (H1.out.1.below hb4 H1.out.1.lt) (And.intro (H1.out.2.1.below hb4 H1.out.2.1.lt) (And.intro (H1.out.2.2.1.trans (hb4.mono H1.out.2.2.1.size)) hrd)))
      clear H1 HB HI hb4 hrd
      cases hx : rightQ (q1, q2, q3) with
      | true =>
        rw [hx] at hst
        have HS := Lib.hid hst
        have h16 : (bsF q1 q2 q3).length = 16 := bsQ_len (q := (q1, q2, q3)) hx
        have HF := Lib.hid (And.intro (hfs hx) hfl)
        rw [show bsC q1 q2 q3 = 0 from if_pos hx, h16]
        clear hst hem hx hfs hfl
        have hcut := run_cut8l (w.heap.size + 1 + 1) k hlt w4
        go_wp2_with (refine cp_bys rfl (.tmp 25) (.tmp 26) rfl (w.heap.size + 2) (16 * k) (128 - 16 * k) (128 - 16 * k) 16 c w4.heap.size A 23 (fillK p k) (bsF q1 q2 q3) (fillK p (k + 1)) HF.out.1 rfl rfl H4.out.2.1 H4.out.2.2.2 h16 (by omega) (by omega) (by rw [HF.out.2]; omega) ?_; intro w6 hw6)
        go_roundw
        case rel => exact ⟨k + 1, hlt, by go_num, HS.out, H4.out.1.chg hw6.out.2 (by omega), hw6.out.1, H4.out.2.2.1.trans (hw6.out.2.below (fun j hj => by omega) H4.out.2.2.1.size)⟩
        case measure => simp [intOf]; omega
      | false =>
        have HE := Lib.hid (hem hx)
        rw [show bsC q1 q2 q3 = 51 from if_neg (by rw [show rightF q1 q2 q3 = false from hx]; simp), show (bsF q1 q2 q3) = [] from if_neg (by rw [show rightF q1 q2 q3 = false from hx]; simp)]
        clear hst hem hx hfs hfl
        go_wp2_with (first
          | (refine wpList_val (by rfl) _ (ex_build0 rfl) ?_)
          | ((with_reducible refine st_sec rfl _ _ rfl (w.heap.size + 1) 0 zsec rfl rfl H4.out.1.secHas ?_); intro w6 hw6))
        have hb6 : Blk w6 (w.heap.size + 1) 23 zsec.cs.toArray := by rw [hw6.out]; exact H4.out.1.secAll zsec
        have hbb : Below w.heap.size w w6 := by rw [hw6.out]; exact Below.setCells _ (by omega) _ _ H4.out.2.2.1
        refine bodyPost_ret (results_row_tmp (u := 3) rfl _ _ _ _ _ _ _ rfl hb6 Try.underlying23 rfl (sizeSec'' _)) rfl ⟨?_, hbb⟩
        rw [nbS_no HE.out, show nbC p = 51 from if_neg (by rw [HE.out]; simp)]
        rfl
    · obtain rfl : k = 8 := by omega
      have ha : all8 p = true := by
        rw [List.take_of_length_le (by rw [p.h]; omega)] at hall
        exact hall
      rw [fill_all ha] at hbs
      have HC : Hid (nbC p = 0) := if_pos ha
      have hsz := hbs.lt
      go_wp2_with (first
        | (with_reducible refine ld_sec rfl _ rfl (w.heap.size + 2) 0 (nbS p) rfl hbs.secIs ?_)
        | ((with_reducible refine st_sec rfl _ _ rfl (w.heap.size + 1) 0 (nbS p) rfl rfl hbz.secHas ?_); intro w6 hw6))
      have hb6 : Blk w6 (w.heap.size + 1) 23 (nbS p).cs.toArray := by rw [hw6.out]; exact hbz.secAll _
      have hbb : Below w.heap.size w w6 := by rw [hw6.out]; exact Below.setCells _ (by omega) _ _ hb
      refine bodyPost_ret (results_row_tmp (u := 3) rfl _ _ _ _ _ _ _ rfl hb6 Try.underlying23 rfl (sizeSec'' _)) rfl ⟨?_, hbb⟩
      rw [HC.out]
      rfl
/-- The contract, met. -/
theorem calls : NodeCalls := ⟨nnbytes_any, nnread_any, nempty_any, nnewest_any⟩
end Go.Proofs.Ytgbghmgipnphkaa
