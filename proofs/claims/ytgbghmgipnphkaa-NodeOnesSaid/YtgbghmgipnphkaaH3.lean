/- The reference's Bytes walked. -/
import Derived.Test.YtgbghmgipnphkaaH2
import Derived.Deep.Cut
set_option maxRecDepth 10000
namespace Go.Proofs.Ytgbghmgipnphkaa
open Go.RowKit

theorem bytes_bad {q : PtrV} (h : rightQ q = false) : bsQ q = [] ∧ bsC q.1 q.2.1 q.2.2 = 51 := by
  unfold bsQ bsF bsC
  rw [if_neg (by rw [show rightF q.1 q.2.1 q.2.2 = false from h]; simp), if_neg (by rw [show rightF q.1 q.2.1 q.2.2 = false from h]; simp)]
  exact ⟨rfl, rfl⟩
theorem bytes_ok {q : PtrV} (h : rightQ q = true) : bsC q.1 q.2.1 q.2.2 = 0 := by
  unfold bsC
  rw [if_pos (show rightF q.1 q.2.1 q.2.2 = true from h)]
def cutK (l : List UInt8) (k : Nat) : Sec := ⟨(l.take k ++ List.replicate 128 0).take 128, by rw [List.length_take, List.length_append, List.length_replicate]; omega⟩
theorem cutK_zero (l : List UInt8) : cutK l 0 = zsec := by kernel_rfl
theorem cutK_at (l : List UInt8) (k j : Nat) (hj : j < 128) : (cutK l k).cs[j]? = some (.int .u8 (((l.take k).getD j 0).toNat : Int)) := by
  rw [Sec.at_ _ j hj]
  congr 3
  simp only [cutK, List.getElem_take, List.getD]
  by_cases h : j < (l.take k).length
  · rw [List.getElem_append_left h, List.getElem?_eq_getElem h]
    rfl
  · rw [List.getElem_append_right (by omega), List.getElem?_eq_none (by omega), List.getElem_replicate]
    rfl
theorem cutK_set {l : List UInt8} {k : Nat} (hk : k < l.length) (h8 : k < 128) : (cutK l k).cs.toArray.setIfInBounds k (.int .u8 (l[k].toNat : Int)) = (cutK l (k + 1)).cs.toArray := by
  refine Array.ext_getElem? fun j => ?_
  rw [Array.getElem?_setIfInBounds, List.getElem?_toArray, List.getElem?_toArray, List.size_toArray, Sec.cs_len]
  by_cases hj : j < 128
  · rw [cutK_at _ _ _ hj, cutK_at _ _ _ hj]
    simp only [List.getD, List.getElem?_take]
    by_cases h : k = j
    · subst h
      rw [if_pos rfl, if_pos hj, if_pos (by omega), List.getElem?_eq_getElem hk]
      rfl
    · rw [if_neg h]
      by_cases h2 : j < k
      · rw [if_pos h2, if_pos (by omega)]
      · rw [if_neg h2, if_neg (by omega)]
  · rw [if_neg (by omega), List.getElem?_eq_none (by rw [Sec.cs_len]; omega), List.getElem?_eq_none (by rw [Sec.cs_len]; omega)]
theorem cutK_all {p : P8} (h : all8 p = true) : cutK (p.l.flatMap bsQ) 128 = nbS p := by
  refine Sec.eq ?_
  rw [nbS_yes h]
  have hl : (p.l.flatMap bsQ).length = 128 := by rw [flat_bs h, p.h]
  show ((p.l.flatMap bsQ).take 128 ++ List.replicate 128 0).take 128 = _
  rw [List.take_of_length_le (l := p.l.flatMap bsQ) (by omega), List.take_left' hl]
/-- append(b, t...) of bytes. -/
theorem app_bs {ops : Array Oper} {rest : List Oper} {o : Oper} {a : Act} {w : World} {Q : Exit → Act → World → Prop} (hgd : o.guard = none) (s x : Nat)
    (ho : o.op = .call { callee := .builtin .append, args := #[.tmp s, .tmp x], argTypes := #[46, 46] })
    (base : Nat) (v : Value) (l : List UInt8) (hs : a.eval (.tmp s) = v) (hown : OwnB w base v l) (B : Nat) (A : Option Addr) (m c : Nat) (t : List UInt8)
    (hx : a.eval (.tmp x) = .slice A m c) (hm : t.length = m) (hr : Rd w B A (bys t)) (hbase : base ≤ w.heap.size) (hn : l.length + m ≤ 140737488355328)
    (h : ∀ v' w', OwnB w' base v' (l ++ t) → w.grownBy w' v.ownBlock → wpList Try.prog ops Q rest (a.put o.dst v') w') :
    wpList Try.prog ops Q (o :: rest) a w := by
  subst hm
  refine app_all Try.underlying46 infoByte rfl hgd s x ho base v l.length (bys l) hs hown B A t.length c _ hx (by rw [bys_len]) hr bys_one hbase (by omega) (by omega) ?_
  intro v' w' h1 h2
  exact h v' w' (ownB_app h1) h2
set_option maxHeartbeats 2000000 in
theorem rnbytes_any (p : P8) (hp : p.ok) (w : World) : Calls Try.prog 12 #[.agg p.cs.toArray] w fun e w' => e = .returned (.tuple #[.agg (nbS p).cs.toArray, .int .i64 (nbC p)]) ∧ Below w.heap.size w w' := by
  have hz : ∀ w, Sem.run Try.prog (zeroValue 23) w = .ok (.agg zsec.cs.toArray) w := zeroSec
  go_enter Try.func12, Try.ntmps12
  have hbl : Blk ((w.alloc (.cells p.cs.toArray 31)).alloc (.cells zsec.cs.toArray 23)) w.heap.size 31 p.cs.toArray := (Blk.new w _ _).below (B := w.heap.size + 1) ((Below.refl _ _).alloc (by simp) _) (by omega)
  have hbs : Blk ((w.alloc (.cells p.cs.toArray 31)).alloc (.cells zsec.cs.toArray 23)) (w.heap.size + 1) 23 zsec.cs.toArray := by
    have h := Blk.new (w.alloc (.cells p.cs.toArray 31)) 23 zsec.cs.toArray
    rw [show (w.alloc (.cells p.cs.toArray 31)).heap.size = w.heap.size + 1 by simp] at h
    exact h
  have hb0 : Below w.heap.size w ((w.alloc (.cells p.cs.toArray 31)).alloc (.cells zsec.cs.toArray 23)) := ((Below.refl _ _).alloc (Nat.le_refl _) _).alloc (by simp) _
  have H0 := Lib.hid (And.intro hbl (And.intro hbs hb0))
  clear hbl hbs hb0
  go_wp2_with fail
  go_loopw [4, 5] (fun v i wr => ∃ k : Nat, k ≤ 8 ∧ i = .int .i64 k ∧ (p.l.take k).all rightQ = true ∧ OwnB wr (w.heap.size + 2) v ((p.l.take k).flatMap bsQ) ∧ w.heap.size + 2 ≤ wr.heap.size ∧ Blk wr w.heap.size 31 p.cs.toArray ∧ Blk wr (w.heap.size + 1) 23 zsec.cs.toArray ∧ Below w.heap.size w wr) (fun _ i _ => 8 - (intOf i).toNat)
  case atStart =>
    have hs2 : ((w.alloc (.cells p.cs.toArray 31)).alloc (.cells zsec.cs.toArray 23)).heap.size = w.heap.size + 2 := by simp
    have hbb := (Below.refl (w.heap.size + 2) ((w.alloc (.cells p.cs.toArray 31)).alloc (.cells zsec.cs.toArray 23))).alloc (by omega) (.cells #[] 5)
    have ho := ownB_nil ((w.alloc (.cells p.cs.toArray 31)).alloc (.cells zsec.cs.toArray 23)) (w.heap.size + 2) (by omega)
    rw [hs2] at ho
    exact ⟨0, by omega, rfl, rfl, ho, by simp, H0.out.1.below hbb (by omega), H0.out.2.1.below hbb (by omega), H0.out.2.2.trans (hbb.mono (by omega))⟩
  case round =>
    clear H0
    obtain ⟨k, hk, rfl, hall, hown, hsz, hbl, hbs, hb⟩ := hrel
    by_cases hlt : k < 8
    · have hat := hbl.p8At k hlt
      have hkl : k < p.l.length := by rw [p.h]; exact hlt
      have hpk := hp _ (p.at_mem k hlt)
      have hst : (p.l.take (k + 1)).all rightQ = rightQ (p.at_ k) := by
        rw [take8 p.l k hkl, List.all_append, hall, at_eq p k hlt]
        simp
      have hfl : (p.l.take (k + 1)).flatMap bsQ = (p.l.take k).flatMap bsQ ++ bsQ (p.at_ k) := by
        rw [take8 p.l k hkl, List.flatMap_append, at_eq p k hlt]
        simp
      have hem : rightQ (p.at_ k) = false → all8 p = false := fun h => by
        unfold all8
        rw [Bool.eq_false_iff]
        intro e
        have := List.all_eq_true.1 e _ (p.at_mem k hlt)
        rw [h] at this
        cases this
      have hlen : ((p.l.take k).flatMap bsQ).length ≤ 128 := by
        rw [flat_bs hall, List.length_take]
        omega
      have HB := Lib.hid (And.intro hown (And.intro hsz (And.intro hbl (And.intro hbs hb))))
      have HR := Lib.hid (rbytes_any hpk wr)
      have HL := Lib.hid hlen
      generalize hqq : p.at_ k = q at *
      clear hqq
      have hk8 : (k : Int) < 8 := by omega
      have hsz' : w.heap.size < wr.heap.size := by omega
      generalize (p.l.take k).flatMap bsQ = L at *
      clear hown hsz hbl hbs hb hall hlen hpk
      go_wp2_with ((with_reducible refine ld_pq rfl _ rfl w.heap.size (k * 3) q rfl hat ?_))
      refine Calls.mono HR.out ?_
      rintro e w1 ⟨A1, c1, rfl, hr1, hc1, hb1⟩
      have HB1 := Lib.hid (And.intro (own_far HB.out.1 hb1) (And.intro (HB.out.2.2.1.below hb1 HB.out.2.2.1.lt) (And.intro (HB.out.2.2.2.1.below hb1 HB.out.2.2.2.1.lt) (And.intro (HB.out.2.2.2.2.trans (hb1.mono HB.out.2.2.2.2.size)) (Nat.le_trans HB.out.2.1 hb1.size)))))
      have HR1 := Lib.hid hr1
      clear hr1 hc1 hb1 HB HR hat
      cases hx : rightQ q with
      | true =>
        rw [hx] at hst
        have hq16 := bsQ_len hx
        rw [bytes_ok hx, show (bsF q.1 q.2.1 q.2.2).length = 16 from hq16]
        have HR2 : Hid (Rd w1 w1.heap.size A1 (bys (bsQ q))) := HR1
        have HS := Lib.hid (And.intro hst (And.intro hfl hq16))
        have own1 : OwnB w1 (w.heap.size + 2) _ L := HB1.out.1
        have HO1 := Lib.hid own1
        clear hst hem hx hfl hq16 HR1 own1
        go_wp2_with (at_builtin; refine app_bs rfl 25 26 rfl (w.heap.size + 2) _ L rfl HO1.out w1.heap.size A1 16 c1 (bsQ q) rfl HS.out.2.2 HR2.out HB1.out.2.2.2.2 (by have := HL.out; omega) ?_; intro v2 w2 hown2 hgr2)
        go_roundw
        case rel =>
          have hbb : Below (w.heap.size + 2) w1 w2 := below_own (Below.refl _ _) HO1.out (Nat.le_refl _) HB1.out.2.2.2.2 hgr2
          exact ⟨k + 1, hlt, by go_num, HS.out.1, by rw [HS.out.2.1]; exact hown2, Nat.le_trans HB1.out.2.2.2.2 hgr2.size, HB1.out.2.1.below hbb (by omega), HB1.out.2.2.1.below hbb (by omega), HB1.out.2.2.2.1.trans (hbb.mono (by omega))⟩
        case measure => simp [intOf]; omega
      | false =>
        have HE := Lib.hid (hem hx)
        obtain ⟨e1, e2⟩ := bytes_bad hx
        rw [e2, show (bsF q.1 q.2.1 q.2.2).length = 0 by rw [show bsF q.1 q.2.1 q.2.2 = [] from e1]; rfl]
        clear hst hem hx hfl e1 e2 HR1
        go_wp2_with ((with_reducible refine st_sec rfl _ _ rfl (w.heap.size + 1) 0 zsec rfl rfl HB1.out.2.2.1.secHas ?_); intro w2 hw2)
        have hb2 : Blk w2 (w.heap.size + 1) 23 zsec.cs.toArray := by rw [hw2.out]; exact HB1.out.2.2.1.secAll zsec
        have hbb : Below w.heap.size w w2 := by rw [hw2.out]; exact Below.setCells _ (by omega) _ _ HB1.out.2.2.2.1
        refine bodyPost_ret (results_row_tmp (u := 3) rfl _ _ _ _ _ _ _ rfl hb2 Try.underlying23 rfl (sizeSec'' _)) rfl ⟨?_, hbb⟩
        rw [nbS_no HE.out, show nbC p = 51 by unfold nbC; rw [if_neg (by rw [HE.out]; simp)]]
        rfl
    · obtain rfl : k = 8 := by omega
      rw [List.take_of_length_le (by rw [p.h]; omega)] at hall hown
      obtain ⟨vA, vc, rfl, hvr, _⟩ := own_rd hown
      have hL : (p.l.flatMap bsQ).length = 128 := by rw [flat_bs hall, p.h]
      have HN := Lib.hid (cutK_all hall)
      have HC : Hid (nbC p = 0) := if_pos hall
      generalize p.l.flatMap bsQ = L at *
      have HB := Lib.hid (And.intro hvr (And.intro hbs hb))
      have hn : Hid (Blk (wr.alloc (.cells zsec.cs.toArray 23)) wr.heap.size 23 zsec.cs.toArray) := Blk.new _ _ _
      clear hvr hbs hb hbl hown hall
      rw [hL]
      go_upto_region 10 with ((with_reducible refine st_sec rfl _ _ rfl wr.heap.size 0 zsec rfl rfl hn.out.secHas ?_); intro w2 hw2)
      have hB1 : Blk w2 wr.heap.size 23 zsec.cs.toArray := by rw [hw2.out]; exact hn.out.secAll zsec
      have hbb : Below wr.heap.size wr w2 := by rw [hw2.out]; exact Below.setCells _ (Nat.le_refl _) _ _ ((Below.refl _ _).alloc (Nat.le_refl _) _)
      have HB2 := Lib.hid (And.intro (HB.out.1.below hbb) (And.intro (HB.out.2.1.below hbb HB.out.2.1.lt) (And.intro hB1 (HB.out.2.2.trans (hbb.mono HB.out.2.2.size)))))
      have hsz2 := hbb.size
      clear hw2 hn hB1 hbb HB hz
      generalize hg : wr.heap.size = gs at *
      clear hg
      go_wp2_with fail
      go_loopw [9] (fun i wi => ∃ j : Nat, j ≤ 128 ∧ i = .int .i64 j ∧ Rd wi gs vA (bys L) ∧ Blk wi (w.heap.size + 1) 23 zsec.cs.toArray ∧ Blk wi gs 23 (cutK L j).cs.toArray ∧ Below w.heap.size w wi) (fun i _ => 128 - (intOf i).toNat)
      case atStart => exact ⟨0, by omega, rfl, HB2.out.1, HB2.out.2.1, by rw [cutK_zero]; exact HB2.out.2.2.1, HB2.out.2.2.2⟩
      case round =>
        clear HB2
        obtain ⟨j, hj, rfl, hvr, hbs, hbc, hb⟩ := hrel
        by_cases hjl : j < 128
        · obtain ⟨b, off, rfl, hbB, hc1⟩ := by_at hvr j (by omega)
          have HS := Lib.hid (cutK_set (l := L) (k := j) (by omega) hjl)
          generalize hx : L[j] = x at *
          clear hx
          obtain ⟨y, hold⟩ : ∃ y : Int, wr.cell? ⟨gs, j, none⟩ = some (.int .u8 y) := ⟨_, (hbc.cell j).trans (by rw [List.getElem?_toArray]; exact cutK_at L j j hjl)⟩
          have hfz := hbc.frozen j
          have hj8 : (j : Int) < 128 := by omega
          have hltg := hbc.lt
          have HB := Lib.hid (And.intro hvr (And.intro hbs (And.intro hbc hb)))
          clear hvr hbs hbc hb
          go_wp2_with fail
          go_roundw
          case rel => exact ⟨j + 1, hjl, by go_num, HB.out.1.below ((Below.refl _ _).setCell (p := ⟨gs, j, none⟩) (Nat.le_refl _) _), HB.out.2.1.far (by simp; omega) _, by rw [← HS.out]; exact HB.out.2.2.1.set_ j _, HB.out.2.2.2.setCell (by simp; omega) _⟩
          case measure => simp [intOf]; omega
        · obtain rfl : j = 128 := by omega
          rw [HN.out] at hbc
          go_wp2_with (first
            | (with_reducible refine ld_sec rfl _ rfl gs 0 (nbS p) rfl hbc.secIs ?_)
            | ((with_reducible refine st_sec rfl _ _ rfl (w.heap.size + 1) 0 (nbS p) rfl rfl hbs.secHas ?_); intro w3 hw3))
          have hb3 : Blk w3 (w.heap.size + 1) 23 (nbS p).cs.toArray := by rw [hw3.out]; exact hbs.secAll _
          have hbb : Below w.heap.size w w3 := by rw [hw3.out]; exact Below.setCells _ (by omega) _ _ hb
          refine bodyPost_ret (results_row_tmp (u := 3) rfl _ _ _ _ _ _ _ rfl hb3 Try.underlying23 rfl (sizeSec'' _)) rfl ⟨?_, hbb⟩
          rw [HC.out]
          rfl
end Go.Proofs.Ytgbghmgipnphkaa
