/- The reference's Bytes. -/
import Derived.Test.YtklccgmhllpjkaaJ4
set_option maxRecDepth 10000
namespace Go.Proofs.Ytklccgmhllpjkaa
open Go.RowKit

def u8 (n : Nat) : UInt8 := UInt8.ofNat n
theorem u8_nat (n : Nat) : ((u8 n).toNat : Int) = (n : Int) % 256 := by
  unfold u8
  rw [UInt8.toNat_ofNat']
  omega
def mvB (m : Mv) : List UInt8 := [u8 (if m.t then 1 else 0), u8 (m.s.toNat % 256), u8 (m.s.toNat / 256), u8 (m.n.toNat % 256), u8 (m.n.toNat / 256)]
def mvsB (l : List Mv) : List UInt8 := l.flatMap mvB
theorem mvsB_len : ∀ l : List Mv, (mvsB l).length = l.length * 5
  | [] => rfl
  | m :: r => by
    have := mvsB_len r
    simp only [mvsB, List.flatMap_cons, List.length_append, List.length_cons] at this ⊢
    simp only [mvB, List.length_cons, List.length_nil]
    omega
theorem mvsB_snoc (l : List Mv) (m : Mv) : mvsB (l ++ [m]) = mvsB l ++ mvB m := by simp [mvsB]
def bytesM (l : List Mv) : Option (List UInt8) := if l.length ≤ 4096 ∧ l.all rightM = true then some (mvsB l) else none
def code8 {α : Type} (o : Option α) : Int := if o.isSome then 0 else 81
/-- Bytes, or none, and an error's number. -/
def PostB (o : Option (List UInt8)) (w : World) (e : Ending) (w' : World) : Prop :=
  ∃ A c, e = .returned (.tuple #[.slice A (o.getD []).length c, .int .i64 (code8 o)]) ∧ Rd w' w'.heap.size A (bys (o.getD [])) ∧ (o.getD []).length ≤ c ∧ Below w.heap.size w w'
theorem postB_none {w w' : World} {e : Ending} (he : e = .returned (.tuple #[.slice none 0 0, .int .i64 81])) (hb : Below w.heap.size w w') : PostB none w e w' := ⟨none, 0, he, Rd.nil, Nat.le_refl _, hb⟩
theorem five_cs (t : Bool) (s n : Nat) (hs : s ≤ 4096) (hn : n ≤ 4096) :
    #[Value.int .u8 (if t then 1 else 0), .int .u8 ((s : Int) % 256), .int .u8 ((s : Int) / 256), .int .u8 ((n : Int) % 256), .int .u8 ((n : Int) / 256)] = (bys (mvB ⟨t, s, n⟩)).toArray := by
  have h : ∀ k : Nat, k < 256 → (((u8 k).toNat : Nat) : Int) = k := fun k hk => by rw [u8_nat]; omega
  have e0 : ((u8 (if t then 1 else 0)).toNat : Int) = if t then 1 else 0 := by cases t <;> rfl
  have e1 := h (s % 256) (by omega)
  have e2 := h (s / 256) (by omega)
  have e3 := h (n % 256) (by omega)
  have e4 := h (n / 256) (by omega)
  simp only [bys, mvB, Int.toNat_natCast, List.map_cons, List.map_nil, e0, e1, e2, e3, e4, Int.natCast_emod, Int.natCast_ediv]
  rfl
/-- append of bytes that lie in the newest block. -/
theorem app_bys {ops : Array Oper} {rest : List Oper} {o : Oper} {a : Act} {w : World} {Q : Exit → Act → World → Prop} (hgd : o.guard = none) (s x : Nat)
    (ho : o.op = .call { callee := .builtin .append, args := #[.tmp s, .tmp x], argTypes := #[35, 35] })
    (base : Nat) (v : Value) (l bs : List UInt8) (m : Nat) (cs : Array Value) (hcs : cs = (bys bs).toArray) (hs : a.eval (.tmp s) = v) (hown : OwnB w base v l) (hm : bs.length = m)
    (hx : a.eval (.tmp x) = .slice (some ⟨w.heap.size, 0, none⟩) m m) (hbase : base ≤ w.heap.size) (hn : l.length + m ≤ 1000000)
    (h : ∀ v' w', OwnB w' base v' (l ++ bs) → (w.alloc (.cells cs 5)).grownBy w' v.ownBlock → wpList Try.prog ops Q rest (a.put o.dst v') w') :
    wpList Try.prog ops Q (o :: rest) a (w.alloc (.cells cs 5)) := by
  subst hcs hm
  refine app_all Try.underlying35 infoByte rfl hgd s x ho base v l.length (bys l) hs (World.ownsRow.alloc hown _) _ _ bs.length _ (bys bs) hx (bys_len _) (rd_new w (bys bs).toArray 5) bys_one (by simp; omega) (by omega) (by omega) ?_
  intro v' w' h1 h2
  refine h v' w' ?_ h2
  show w'.ownsRow base 5 1 v' (l ++ bs).length (bys (l ++ bs))
  rw [bys_app, List.length_append]
  exact h1
/-- What stands while a row of bytes grows. -/
structure BInv (w wr : World) (base : Nat) (v : Value) (l : List UInt8) : Prop where
  own : OwnB wr base v l
  below : Below base w wr
  le : base ≤ wr.heap.size
theorem BInv.fresh {w wr wr' : World} {base : Nat} {v : Value} {l : List UInt8} (h : BInv w wr base v l) (hb : Below wr.heap.size wr wr') : BInv w wr' base v l :=
  ⟨own_far h.own hb, h.below.trans (hb.mono h.le), Nat.le_trans h.le hb.size⟩
theorem BInv.app {w wr w' : World} {base : Nat} {v v' : Value} {l bs : List UInt8} {cs : Array Value} (h : BInv w wr base v l) (ho : OwnB w' base v' (l ++ bs)) (hg : (wr.alloc (.cells cs 5)).grownBy w' v.ownBlock) : BInv w w' base v' (l ++ bs) :=
  have hl : base ≤ (wr.alloc (.cells cs 5)).heap.size := by simp; have := h.le; omega
  ⟨ho, below_own (h.below.alloc h.le _) (World.ownsRow.alloc h.own _) (Nat.le_refl _) hl hg, Nat.le_trans hl hg.size⟩
theorem BInv.gives {w w' : World} {v : Value} {l : List UInt8} {e : Ending} (h : BInv w w' w.heap.size v l) (he : e = .returned (.tuple #[v, .int .i64 0])) : PostB (some l) w e w' := by
  obtain ⟨A, c, rfl, h1, h2⟩ := own_rd h.own
  exact ⟨A, c, he, h1, h2, h.below⟩
theorem nil_BInv (w : World) : BInv w (w.alloc (.cells #[] 5)) w.heap.size (.slice (some ⟨w.heap.size, 0, none⟩) 0 0) [] :=
  ⟨ownB_nil w w.heap.size (Nat.le_refl _), (Below.refl _ _).alloc (Nat.le_refl _) _, by simp⟩
theorem all_take {l : List Mv} {k : Nat} (hk : k < l.length) (h : (l.take k).all rightM = true) (hr : rightM l[k] = true) : (l.take (k + 1)).all rightM = true := by
  rw [List.take_succ_eq_append_getElem hk, List.all_append, h]
  simp [hr]
theorem not_all {l : List Mv} {k : Nat} (hk : k < l.length) (hr : rightM l[k] = false) : bytesM l = none := by
  refine if_neg fun h => ?_
  have := List.all_eq_true.1 h.2 _ (List.getElem_mem hk)
  rw [hr] at this
  cases this
set_option maxHeartbeats 4000000 in
theorem jbytes_any (A : Option Addr) (c : Nat) (ms : List Mv) (w : World) (ht : Rd w w.heap.size A (mvs ms)) (hmo : MvOk ms) (hml : ms.length ≤ 1000000) :
    Calls Try.prog 19 #[.slice A ms.length c] w (PostB (bytesM ms) w) := by
  by_cases h4 : ms.length ≤ 4096
  · have HT := Lib.hid ht
    have HMO := Lib.hid hmo
    have HN := Lib.hid (nil_BInv w)
    have H4 := Lib.hid h4
    have h4i : (ms.length : Int) ≤ 4096 := by omega
    clear ht hmo hml h4
    go_enter Try.func19, Try.ntmps19
    go_wp2_with fail
    generalize hbase : w.heap.size = base at *
    have HB := Lib.hid hbase
    clear hbase
    generalize (Value.slice (some ⟨base, 0, none⟩) 0 0) = v0 at *
    go_loopw [14, 4] (fun i v wr => ∃ (k : Nat), k ≤ ms.length ∧ i = .int .i64 k ∧ (ms.take k).all rightM = true ∧ BInv w wr base v (mvsB (ms.take k))) (fun i _ _ => ms.length - (intOf i).toNat)
    case atStart => exact ⟨0, Nat.zero_le _, rfl, rfl, HN.out⟩
    case round =>
      clear HN
      obtain ⟨k, hk, rfl, hA, hI⟩ := hrel
      have HI := Lib.hid hI
      have HA := Lib.hid hA
      clear hI hA
      by_cases hlt : k < ms.length
      · have hki : (k : Int) < ms.length := by omega
        obtain ⟨b, off, rfl, hbl, hr⟩ := HT.out.mv k hlt
        have HRM : Hid (wr.rangeAt b (off + k * 3) ms[k].cs) := fun j v hj => (HI.out.below.cell (p := ⟨b, off + k * 3 + j, none⟩) hbl).trans (hr j v hj)
        have HJ := Lib.hid (jright_any ms[k] (HMO.out _ (List.getElem_mem hlt)))
        have HK := Lib.hid hlt
        have HTK : Hid (ms.take (k + 1) = ms.take k ++ [ms[k]]) := Lib.hid (List.take_succ_eq_append_getElem hlt)
        have HNO := Lib.hid (not_all hlt)
        have HAL := Lib.hid (all_take hlt HA.out)
        generalize ms[k] = m at *
        obtain ⟨t, s0, n0⟩ := m
        clear hr hbl hk hlt
        cases hrm : rightM ⟨t, s0, n0⟩ with
        | false =>
          rw [hrm] at HJ
          have HE := Lib.hid (HNO.out hrm)
          clear hrm HNO HAL
          go_wp2_with (first
            | (with_reducible refine ld_mv rfl _ rfl b (off + k * 3) ⟨t, s0, n0⟩ rfl HRM.out ?_)
            | (with_reducible refine st_mv rfl _ _ rfl wr.heap.size 0 ⟨t, s0, n0⟩ rfl rfl (Blk.mvHas (m := zmv) (Blk.new wr _ _)) ?_; intro w4 hw4
               have HI4 := Lib.hid (HI.out.fresh (new_mv hw4.out).2)
               have HM4 := Lib.hid (new_mv hw4.out).1)
            | (with_reducible refine ld_mv rfl _ rfl wr.heap.size 0 ⟨t, s0, n0⟩ rfl HM4.out.mvIs ?_)
            | (go_at_call 29; (with_reducible refine Calls.mono (HJ.out _) ?_); rintro e w5 ⟨rfl, hb5⟩; have HI5 := Lib.hid (HI4.out.fresh hb5); clear hb5))
          go_ret2
          rw [HE.out]
          have HB := HB.out
          subst HB
          exact postB_none rfl HI5.out.below
        | true =>
          rw [hrm] at HJ
          obtain ⟨hm0, hm1, hm2⟩ := rightM_iff.1 hrm
          have HAM := Lib.hid (HAL.out hrm)
          simp only at hm0 hm1 hm2
          clear hrm HNO HAL
          obtain ⟨s, rfl⟩ := Int.eq_ofNat_of_zero_le hm0
          obtain ⟨n, rfl⟩ := Int.eq_ofNat_of_zero_le (show 0 ≤ n0 by omega)
          go_upto_region 9 with (first
            | (with_reducible refine ld_mv rfl _ rfl b (off + k * 3) ⟨t, (s : Int), (n : Int)⟩ rfl HRM.out ?_)
            | (with_reducible refine st_mv rfl _ _ rfl wr.heap.size 0 ⟨t, (s : Int), (n : Int)⟩ rfl rfl (Blk.mvHas (m := zmv) (Blk.new wr _ _)) ?_; intro w4 hw4
               have HI4 := Lib.hid (HI.out.fresh (new_mv hw4.out).2)
               have HM4 := Lib.hid (new_mv hw4.out).1)
            | (with_reducible refine ld_mv rfl _ rfl wr.heap.size 0 ⟨t, (s : Int), (n : Int)⟩ rfl HM4.out.mvIs ?_)
            | (go_at_call 29; (with_reducible refine Calls.mono (HJ.out _) ?_); rintro e w5 ⟨rfl, hb5⟩
               have HI5 := Lib.hid (HI4.out.fresh hb5)
               have HM5 := Lib.hid (HM4.out.below hb5 HM4.out.lt)
               clear hb5))
          have c0 : w5.cell? ⟨wr.heap.size, 0, none⟩ = some (.bool t) := HM5.out.mvF.1
          have c1 : w5.cell? ⟨wr.heap.size, 1, none⟩ = some (.int .i64 (s : Int)) := HM5.out.mvF.2.1
          have c2 : w5.cell? ⟨wr.heap.size, 2, none⟩ = some (.int .i64 (n : Int)) := HM5.out.mvF.2.2
          clear HI HRM HI4 HM4 HJ hw4 HM5
          generalize wr.heap.size = g6 at *
          have q1 : (s : Int) ≤ 4096 := by omega
          have q2 : (n : Int) ≤ 4096 := by omega
          clear hm0 hm1 hm2
          cases t with
          | false =>
            have HF := Lib.hid (five_cs false s n (by omega) (by omega))
            have HL : Hid ((mvsB (ms.take k)).length + 5 ≤ 1000000) := (by exact Nat.le_trans (Nat.add_le_add_right (by rw [mvsB_len, List.length_take]; have := H4.out; omega) 5) (show 20480 + 5 ≤ 1000000 by omega))
            go_wp2_with (at_builtin; refine app_bys rfl 23 45 rfl base _ _ (mvB ⟨false, (s : Int), (n : Int)⟩) 5 _ HF.out rfl HI5.out.own rfl rfl HI5.out.le HL.out ?_; intro v' w7 ho7 hg7; have HI7 := Lib.hid (HI5.out.app ho7 hg7))
            go_roundw
            case rel => exact ⟨k + 1, HK.out, by go_num, HAM.out, by rw [HTK.out, mvsB_snoc]; exact HI7.out⟩
            case measure => have := HK.out; simp [intOf]; omega
          | true =>
            have HF := Lib.hid (five_cs true s n (by omega) (by omega))
            have HL : Hid ((mvsB (ms.take k)).length + 5 ≤ 1000000) := (by exact Nat.le_trans (Nat.add_le_add_right (by rw [mvsB_len, List.length_take]; have := H4.out; omega) 5) (show 20480 + 5 ≤ 1000000 by omega))
            go_wp2_with (at_builtin; refine app_bys rfl 23 45 rfl base _ _ (mvB ⟨true, (s : Int), (n : Int)⟩) 5 _ HF.out rfl HI5.out.own rfl rfl HI5.out.le HL.out ?_; intro v' w7 ho7 hg7; have HI7 := Lib.hid (HI5.out.app ho7 hg7))
            go_roundw
            case rel => exact ⟨k + 1, HK.out, by go_num, HAM.out, by rw [HTK.out, mvsB_snoc]; exact HI7.out⟩
            case measure => have := HK.out; simp [intOf]; omega
      · obtain rfl : k = ms.length := by omega
        rw [List.take_of_length_le (Nat.le_refl _)] at HI HA
        have HE : Hid (bytesM ms = some (mvsB ms)) := if_pos ⟨H4.out, HA.out⟩
        clear hk hlt HA
        have HB := HB.out
        subst HB
        go_wp2_with fail
        go_ret2
        rw [HE.out]
        exact HI.out.gives rfl
  · have h4i : (4096 : Int) < ms.length := by omega
    have HE : Hid (bytesM ms = none) := if_neg fun h => h4 h.1
    rw [HE.out]
    clear ht hmo HE h4
    go_enter Try.func19, Try.ntmps19
    go_wp2_with fail
    go_ret2
    exact postB_none rfl (Below.refl _ _)
end Go.Proofs.Ytklccgmhllpjkaa
