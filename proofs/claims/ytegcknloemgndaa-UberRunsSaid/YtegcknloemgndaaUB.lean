/- Walks: the reference's Bytes and Read; the law on bytes. Laid together of XU17, XU18, XU19, XU20 (a claim has at most 60 files). -/
import Derived.Test.YtegcknloemgndaaU14
import Derived.ArgAppend
import Derived.Lib.SmallJoins
set_option maxRecDepth 10000
namespace Go.Proofs.Ytegcknloemgndaa
open Go.RowKit

def lenV : Value → Nat
  | .slice _ n _ => n
  | _ => 0
/-- Bytes that are put together beside the call's two blocks. -/
structure Bld (u : Ub) (w w' : World) (v : Value) (L : List UInt8) : Prop where
  base : Base u w w' zsec
  own : OwnB w' (w.heap.size + 2) v L
theorem Bld.next {u : Ub} {w w' w'' : World} {v : Value} {L : List UInt8} (h : Bld u w w' v L) (hb : Below w'.heap.size w' w'') : Bld u w w'' v L :=
  ⟨h.base.next u hb, own_far h.own hb⟩
theorem Bld.app {u : Ub} {w w' w'' : World} {v v' : Value} {L L' : List UInt8} (h : Bld u w w' v L) (ho : OwnB w'' (w.heap.size + 2) v' L') (hg : w'.grownBy w'' v.ownBlock) : Bld u w w'' v' L' := by
  have hc : Chg w' w'' (fun k => v.ownBlock = some k) := (Chg.refl _ _).grown hg fun _ hk => .inl hk
  have hf : ∀ k, v.ownBlock = some k → w.heap.size + 2 ≤ k := fun k hk => (h.own.lt k hk).1
  refine ⟨⟨h.base.ub.chg hc fun e => by have := hf _ e; omega, h.base.sec.chg hc fun e => by have := hf _ e; omega, h.base.below.trans (hc.below (fun k hk => by have := hf k hk; omega) h.base.below.size), Nat.le_trans h.base.size hc.size⟩, ho⟩
theorem app_bld {u : Ub} {w0 : World} {ops : Array Oper} {rest : List Oper} {o : Oper} {a : Act} {w : World} {Q : Exit → Act → World → Prop} (hgd : o.guard = none) (s x : Nat)
    (ho : o.op = .call { callee := .builtin .append, args := #[.tmp s, .tmp x], argTypes := #[76, 76] })
    (v : Value) (L : List UInt8) (hs : a.eval (.tmp s) = v) (hB : Bld u w0 w v L) (A : Option Addr) (m c N B : Nat) (l L' : List UInt8)
    (hx : a.eval (.tmp x) = .slice A m c) (hr : Rd w B A (bys l)) (hm : l.length = m) (hN : L'.length = N) (hL : L ++ l = L') (hn : N ≤ 1000)
    (h : ∀ A' c' w', Hid (Bld u w0 w' (.slice A' N c') L') → wpList Try.prog ops Q rest (a.put o.dst (.slice A' N c')) w') :
    wpList Try.prog ops Q (o :: rest) a w := by
  subst hm hN hL
  have hl : L.length + l.length ≤ 1000 := by rwa [List.length_append] at hn
  refine app_all Try.underlying76 infoByte rfl hgd s x ho (w0.heap.size + 2) v L.length (bys L) hs hB.own B A l.length c (bys l) hx (bys_len l) hr bys_one hB.base.size (by omega) (by omega) ?_
  intro v' w' h1 h2
  have h3 := ownB_app h1
  obtain ⟨A', c', rfl, _, _⟩ := own_rd h3
  exact h A' c' w' (hB.app h3 h2)
theorem app_first {u : Ub} {w0 : World} {ops : Array Oper} {rest : List Oper} {o : Oper} {a : Act} {w : World} {Q : Exit → Act → World → Prop} (hgd : o.guard = none) (s x : Nat)
    (ho : o.op = .call { callee := .builtin .append, args := #[.tmp s, .tmp x], argTypes := #[76, 76] })
    (g : Nat) (hs : a.eval (.tmp s) = .slice (some ⟨g, 0, none⟩) 4 4) (hB : Base u w0 w zsec) (hg : Rd w w.heap.size (some ⟨g, 0, none⟩) (bys magicL)) (A : Option Addr) (c B : Nat) (l : List UInt8)
    (hx : a.eval (.tmp x) = .slice A 8 c) (hr : Rd w B A (bys l)) (hm : l.length = 8)
    (h : ∀ A' c' w', Hid (Bld u w0 w' (.slice A' 12 c') (magicL ++ l)) → wpList Try.prog ops Q rest (a.put o.dst (.slice A' 12 c')) w') :
    wpList Try.prog ops Q (o :: rest) a w := by
  obtain ⟨i0, hi0, hz0, hz2, hz3⟩ := info_parts infoByte
  obtain ⟨b, off, rfl, _, _⟩ := hr (by rw [bys_len]; omega)
  refine wpList_append_arg w hgd (.tmp s) (.tmp x) _ ho 5 i0 _ 1 1 Try.underlying76 hi0 hz0 hz2 hz3 rfl (by omega) g 0 4 4 (bys magicL) hs rfl (fun j v hj => ?_) ⟨b, off, none⟩ 8 c (bys l) hx (by rw [bys_len]; omega) (rd_add hr) bys_one (fun h => by omega) (by simp [maxLen]) (by omega) (fun h => by omega) ?_
  · have := rd_add hg j v hj
    rwa [Addr.add_mid] at this
  · intro _ v' w' h1 h2
    have h3 : OwnB w' w.heap.size v' (magicL ++ l) := ownB_app (l := magicL) (m := l) (by rw [hm]; exact h1)
    have h4 : OwnB w' (w0.heap.size + 2) v' (magicL ++ l) := own_base h3 hB.size
    obtain ⟨A', c', rfl, _, _⟩ := own_rd h4
    have hl : (magicL ++ l).length = 12 := by rw [List.length_append, hm]; rfl
    rw [hl] at h4 ⊢
    refine h A' c' w' ⟨?_, h4⟩
    have hb : Below w.heap.size w w' := ⟨h2.os, h2.tape, h2.output, h2.size, fun k hk => h2.block k hk (by simp)⟩
    exact hB.next u hb
theorem num_any (x n : Nat) (X : Int) (hX : X = x) (hx : x ≤ 8) (hn : n < 18446744073709551616) (w : World) : Calls Try.prog 39 #[.int .u64 (n : Int), .int .i64 X] w fun e w' => ∃ A c y, e = .returned (.tuple #[.slice A x c, y]) ∧ Rd w' w'.heap.size A (bys (bytesF x n)) ∧ Below w.heap.size w w' := by
  subst hX
  refine (rnumber_any x n w hx hn).mono ?_
  rintro e w' ⟨v, rfl, ho, hb⟩
  obtain ⟨A, c, rfl, hr, _⟩ := own_rd ho
  rw [bytesF_len]
  exact ⟨A, c, _, rfl, hr, hb⟩
theorem ex_idx {o : Oper} {a : Act} {w : World} {T : TypeId} (x y : Operand) (ho : o.op = .index T x y) (vx vy r : Value) (hx : a.eval x = vx) (hy : a.eval y = vy) (h : (Instr.index T vx vy).run Try.prog w = .ok r w) : (execOp a.eval o).run Try.prog w = .ok (.value r) w := by
  unfold execOp
  subst hx hy
  simp only [ho, h, Sem.run_bind, Sem.run_pure, Result.andThen_ok]
theorem idx2_0 (a b : Int) (w : World) : (Instr.index 83 (.agg #[.int .u64 a, .int .u64 b]) (.int .i64 0)).run Try.prog w = .ok (.int .u64 a) w := by kernel_rfl
theorem idx2_1 (a b : Int) (w : World) : (Instr.index 83 (.agg #[.int .u64 a, .int .u64 b]) (.int .i64 1)).run Try.prog w = .ok (.int .u64 b) w := by kernel_rfl
theorem idx4_0 (a b : Int) (w : World) : (Instr.index 88 (.agg #[.int .i64 a, .int .i64 b]) (.int .i64 0)).run Try.prog w = .ok (.int .i64 a) w := by kernel_rfl
theorem idx4_1 (a b : Int) (w : World) : (Instr.index 88 (.agg #[.int .i64 a, .int .i64 b]) (.int .i64 1)).run Try.prog w = .ok (.int .i64 b) w := by kernel_rfl
theorem rptr_ok (u : Ub) (hr : rightF u.at_ u.birth u.sum = true) (w : World) : Calls Try.prog 40 #[ptv u.at_ u.birth u.sum] w fun e w' =>
    ∃ A2 c2, e = .returned (.tuple #[.slice A2 16 c2, .int .i64 0]) ∧ Rd w' w'.heap.size A2 (bys (ptrBytes u.at_.toNat u.birth u.sum)) ∧ Below w.heap.size w w' := by
  refine (rbytes_any (isPtr u) w).mono ?_
  rintro e w' ⟨A2, c2, he, h1, _, h3⟩
  have e1 : bsF u.at_ u.birth u.sum = ptrBytes u.at_.toNat u.birth u.sum := by unfold bsF; rw [if_pos hr]; simp
  have e2 : bsC u.at_ u.birth u.sum = 0 := if_pos hr
  rw [e1, e2, ptrBytes_len] at he
  rw [e1] at h1
  exact ⟨A2, c2, he, h1, h3⟩
section
variable (u : Ub)
theorem rubytes_no (h : rightU u = false) (w : World) : Calls Try.prog 13 #[.agg u.cs.toArray] w fun e w' => e = .returned (.tuple #[.agg zsec.cs.toArray, .int .i64 61]) ∧ Below w.heap.size w w' := by
  have hz : ∀ w, Sem.run Try.prog (zeroValue 34) w = .ok (.agg zsec.cs.toArray) w := zeroSec
  have hbd : ∀ w, (Instr.build 34 #[]).run Try.prog w = .ok (.agg zsec.cs.toArray) w := buildZ
  have right := urright_any u
  rw [h] at right
  have HR := Lib.hid right
  clear right h
  have HB := Lib.hid (base_new u w zsec)
  go_enter Try.func13, Try.ntmps13
  go_wp2_with (first
    | (with_reducible refine ld_ub rfl _ rfl w.heap.size 0 u rfl HB.out.ub.ubIs ?_)
    | (go_at_call 17; refine (HR.out _).mono ?_; rintro e w1 ⟨rfl, hb1⟩; have HB1 := Lib.hid (HB.out.next u hb1); clear hb1)
    | (with_reducible refine st_sec rfl _ _ rfl (w.heap.size + 1) 0 zsec rfl rfl HB1.out.sec.secHas ?_; intro w2 hw2))
  have hb2 : Blk w2 (w.heap.size + 1) 34 zsec.cs.toArray := by rw [hw2.out]; exact HB1.out.sec.secAll zsec
  exact bodyPost_ret (results_row_tmp rfl _ _ _ _ _ _ _ rfl hb2 Try.underlying34 rfl (sizeSec'' zsec)) rfl ⟨rfl, by rw [hw2.out]; exact Below.setCells _ (by omega) _ _ HB1.out.below⟩
def L1 (k : Nat) : List UInt8 := if k = 0 then magicL else if k = 1 then magicL ++ bytesF 8 u.txg else (magicL ++ bytesF 8 u.txg) ++ bytesF 8 u.stamp
def L2 (k : Nat) : List UInt8 := if k = 0 then L1 u 2 ++ ptrBytes u.at_.toNat u.birth u.sum else if k = 1 then (L1 u 2 ++ ptrBytes u.at_.toNat u.birth u.sum) ++ bytesF 4 u.len.toNat else ((L1 u 2 ++ ptrBytes u.at_.toNat u.birth u.sum) ++ bytesF 4 u.len.toNat) ++ bytesF 4 u.secs.toNat
theorem L2_front : L2 u 2 = frontU u := by simp [L2, L1, frontU]
/-- A step of the copy into a sector: its cells then. -/
def spl_one (L : List UInt8) (k : Nat) : Prop := ∀ (x : UInt8), L[k]? = some x → (bys (L.take k ++ List.replicate (128 - k) 0)).toArray.setIfInBounds k (.int .u8 (x.toNat : Int)) = (bys (L.take (k + 1) ++ List.replicate (128 - (k + 1)) 0)).toArray
theorem Base.step {u : Ub} {w w' w'' : World} {s : Sec} {B : Nat} (h : Base u w w' s) (hB : w.heap.size + 2 ≤ B) (hb : Below B w' w'') : Base u w w'' s :=
  ⟨h.ub.below hb (by omega), h.sec.below hb (by omega), h.below.trans (hb.mono (by omega)), Nat.le_trans h.size hb.size⟩
theorem spl_ok {L : List UInt8} {k : Nat} (hL : L.length = 128) (hk : k < 128) : spl_one L k := by
  intro x hx
  obtain ⟨hk', rfl⟩ := List.getElem?_eq_some_iff.1 hx
  have hl : (L.take k).length = k := by rw [List.length_take]; omega
  rw [List.take_succ_eq_append_getElem hk', List.setIfInBounds_toArray]
  congr 1
  rw [show 128 - k = (128 - (k + 1)) + 1 by omega, List.replicate_succ, bys_app, bys_app, bys_app, List.set_append_right _ _ (by rw [bys_len, hl]; omega), bys_len, hl, Nat.sub_self]
  simp [bys]
set_option maxHeartbeats 4000000 in
theorem rubytes_yes (h : rightU u = true) (w : World) : Calls Try.prog 13 #[.agg u.cs.toArray] w fun e w' => e = .returned (.tuple #[.agg (secU u).cs.toArray, .int .i64 0]) ∧ Below w.heap.size w w' := by
  have hz : ∀ w, Sem.run Try.prog (zeroValue 34) w = .ok (.agg zsec.cs.toArray) w := zeroSec
  have hbd : ∀ w, (Instr.build 34 #[]).run Try.prog w = .ok (.agg zsec.cs.toArray) w := buildZ
  have hok := ok_of h
  have right := urright_any u
  rw [h] at right
  have HR := Lib.hid right
  have hb := u.hu
  have HN1 := Lib.hid (num_any 8 u.txg 8 rfl (by omega) (by omega))
  have HN2 := Lib.hid (num_any 8 u.stamp 8 rfl (by omega) (by omega))
  obtain ⟨ln, hln⟩ : ∃ ln, ln = u.len.toNat := ⟨_, rfl⟩
  obtain ⟨sn, hsn⟩ : ∃ sn, sn = u.secs.toNat := ⟨_, rfl⟩
  have HN3 := Lib.hid (num_any 4 ln 4 rfl (by omega) (by have := hok.2.2.2.1; omega))
  have HN4 := Lib.hid (num_any 4 sn 4 rfl (by omega) (by have := hok.2.2.2.2; omega))
  have HN5 := Lib.hid (num_any 4 (moreF 0 (headU u)) 4 rfl (by omega) (by have := moreU_lt (headU u); omega))
  have HQ := Lib.hid (rptr_ok u (ok_right hok))
  have HW1 : Hid (IntKind.u64.wrap u.len = (ln : Int)) := by have := hok.2.2.2.1; show _ = _; simp [IntKind.wrap, IntKind.signed, IntKind.bits]; omega
  have HW2 : Hid (IntKind.u64.wrap u.secs = (sn : Int)) := by have := hok.2.2.2.2; show _ = _; simp [IntKind.wrap, IntKind.signed, IntKind.bits]; omega
  have HM := Lib.hid (moreU_lt (headU u))
  have HB := Lib.hid (base_new u w zsec)
  have HLN := Lib.hid hln
  have HSN := Lib.hid hsn
  clear right h hok hb hln hsn
  go_enter Try.func13, Try.ntmps13
  go_wp2_with (first
    | (with_reducible refine ld_ub rfl _ rfl w.heap.size 0 u rfl HB.out.ub.ubIs ?_)
    | (go_at_call 17; refine (HR.out _).mono ?_; rintro e w1 ⟨rfl, hb1⟩; have HB1 := Lib.hid (HB.out.next u hb1); have hcv := Go.Joins.run_convert_bytes_const_at (P := Try.prog) w1 76 5 #[.int .u8 65, .int .u8 81, .int .u8 70, .int .u8 82] 4 4 w1.heap.size rfl Try.underlying76 Try.underlying5; have HB2 := Lib.hid (HB1.out.next u ((Below.refl _ _).alloc (Nat.le_refl _) (.cells #[.int .u8 65, .int .u8 81, .int .u8 70, .int .u8 82] 5 (4, 5)))); have HR2 := Lib.hid (rd_newf w1 #[.int .u8 65, .int .u8 81, .int .u8 70, .int .u8 82] 5 (4, 5)); obtain ⟨c0, c1, _⟩ := HB2.out.ub.ubF; clear hb1))
  go_loopw [4, 30] (fun b i wr => ∃ (k : Nat), k ≤ 2 ∧ i = .int .i64 k ∧ (k = 0 ∧ Base u w wr zsec ∧ (∃ g, b = .slice (some ⟨g, 0, none⟩) 4 4 ∧ Rd wr wr.heap.size (some ⟨g, 0, none⟩) (bys magicL)) ∨ 1 ≤ k ∧ Bld u w wr b (L1 u k))) (fun _ i _ => 2 - (intOf i).toNat)
  case atStart => exact ⟨0, by omega, rfl, .inl ⟨rfl, HB2.out, w1.heap.size, rfl, HR2.out⟩⟩
  case round =>
    clear c0 c1 HB2 HR2 HB1 HR HB hcv
    obtain ⟨k, hk, rfl, hL⟩ := hrel
    rcases k with _ | _ | k
    · have hL' : Base u w wr zsec ∧ (∃ g, u4 = .slice (some ⟨g, 0, none⟩) 4 4 ∧ Rd wr wr.heap.size (some ⟨g, 0, none⟩) (bys magicL)) := by
        rcases hL with h | h
        · exact h.2
        · exact absurd h.1 (by omega)
      obtain ⟨hb, g, rfl, hr⟩ := hL'
      have HL := Lib.hid hb
      have HR := Lib.hid hr
      clear hL hb hr
      go_wp2_with (first
        | (refine wpList_val (by rfl) (.int .u64 (u.txg : Int)) (ex_idx (.tmp 29) (.tmp 30) rfl (.agg #[.int .u64 (u.txg : Int), .int .u64 (u.stamp : Int)]) (.int .i64 0) _ rfl rfl (idx2_0 _ _ _)) ?_)
        | (go_at_call 39; with_reducible refine Calls.mono (HN1.out _) ?_; rintro e w3 ⟨A3, k3, y3, rfl, hr3, hb3⟩; have HL3 := Lib.hid (HL.out.next u hb3); have HR3 := Lib.hid hr3; have HR4 := Lib.hid ((HR.out.below hb3).mono hb3.size); clear hr3 hb3)
        | (at_builtin; go_loud (refine app_first rfl 38 39 rfl g rfl HL3.out HR4.out A3 k3 _ (bytesF 8 u.txg) rfl HR3.out (bytesF_len _ _) ?_); intro A' c' w' hB'))
      go_roundw
      case rel => exact ⟨1, by omega, by go_num, .inr ⟨by omega, hB'.out⟩⟩
      case measure => simp [intOf]
    · have HL : Hid (Bld u w wr u4 (L1 u 1)) := by
        rcases hL with h | h
        · exact absurd h.1 (by omega)
        · exact h.2
      clear hL
      go_wp2_with (first
        | (refine wpList_val (by rfl) (.int .u64 (u.stamp : Int)) (ex_idx (.tmp 29) (.tmp 30) rfl (.agg #[.int .u64 (u.txg : Int), .int .u64 (u.stamp : Int)]) (.int .i64 1) _ rfl rfl (idx2_1 _ _ _)) ?_)
        | (go_at_call 39; with_reducible refine Calls.mono (HN2.out _) ?_; rintro e w3 ⟨A3, k3, y3, rfl, hr3, hb3⟩; have HL3 := Lib.hid (HL.out.next hb3); have HR3 := Lib.hid hr3; clear hr3 hb3)
        | (at_builtin; go_loud (refine app_bld rfl 38 39 rfl u4 (L1 u 1) rfl HL3.out A3 8 k3 20 _ (bytesF 8 u.stamp) (L1 u 2) rfl HR3.out (bytesF_len _ _) (by simp [L1, magicL, bytesF_len]) rfl (by omega) ?_); intro A' c' w' hB'))
      go_roundw
      case rel => exact ⟨2, by omega, by go_num, .inr ⟨by omega, hB'.out⟩⟩
      case measure => simp [intOf]
    · obtain rfl : k = 0 := by omega
      have HL : Hid (Bld u w wr u4 (L1 u 2)) := by
        rcases hL with h | h
        · exact absurd h.1 (by omega)
        · exact h.2
      clear hL hk
      obtain ⟨c0, c1, c2, c3, c4, c5, c6⟩ := HL.out.base.ub.ubF
      go_wp2_with (first
        | (with_reducible refine ld_ptrU rfl _ rfl w.heap.size _ u rfl HL.out.base.ub ?_)
        | (go_at_call 40; with_reducible refine Calls.mono (HQ.out _) ?_; rintro e w3 ⟨A3, k3, rfl, hr3, hb3⟩; have HL3 := Lib.hid (HL.out.next hb3); have HR3 := Lib.hid hr3; clear hr3 hb3 c0 c1 c2 c3 c4 c5 c6)
        | (at_builtin; go_loud (refine app_bld rfl 48 49 rfl u4 (L1 u 2) rfl HL3.out A3 16 k3 36 _ (ptrBytes u.at_.toNat u.birth u.sum) (L2 u 0) rfl HR3.out (ptrBytes_len _ _ _) (by simp [L2, L1, magicL, bytesF_len, ptrBytes_len]) rfl (by omega) ?_); intro A4 k4 w4 hB4
           obtain ⟨c0, c1, c2, c3, c4, c5, c6⟩ := hB4.out.base.ub.ubF))
      clear HL c0 c1 c2 c3 c4 c5 c6
      go_loopw [4, 56] (fun b i wr => ∃ (k : Nat), k ≤ 2 ∧ i = .int .i64 k ∧ Bld u w wr b (L2 u k)) (fun _ i _ => 2 - (intOf i).toNat)
      case atStart => exact ⟨0, by omega, rfl, hB4.out⟩
      case round =>
        obtain ⟨k, hk, rfl, hL⟩ := hrel
        have HL := Lib.hid hL
        clear hL hB4
        have hw1 := HW1.out
        have hw2 := HW2.out
        rcases k with _ | _ | k
        · go_wp2_with (first
            | (refine wpList_val (by rfl) (.int .i64 u.len) (ex_idx (.tmp 55) (.tmp 56) rfl (.agg #[.int .i64 u.len, .int .i64 u.secs]) (.int .i64 0) _ rfl rfl (idx4_0 _ _ _)) ?_)
            | (go_at_call 39; with_reducible refine Calls.mono (HN3.out _) ?_; rintro e w3 ⟨A3, k3, y3, rfl, hr3, hb3⟩; have HL3 := Lib.hid (HL.out.next hb3); have HR3 := Lib.hid hr3; clear hr3 hb3)
            | (at_builtin; go_loud (refine app_bld rfl 65 66 rfl u4 (L2 u 0) rfl HL3.out A3 4 k3 40 _ (bytesF 4 ln) (L2 u 1) rfl HR3.out (bytesF_len _ _) (by simp [L2, L1, magicL, bytesF_len, ptrBytes_len]) (by rw [HLN.out]; rfl) (by omega) ?_); intro A' c' w' hB'))
          go_roundw
          case rel => exact ⟨1, by omega, by go_num, hB'.out⟩
          case measure => simp [intOf]
        · go_wp2_with (first
            | (refine wpList_val (by rfl) (.int .i64 u.secs) (ex_idx (.tmp 55) (.tmp 56) rfl (.agg #[.int .i64 u.len, .int .i64 u.secs]) (.int .i64 1) _ rfl rfl (idx4_1 _ _ _)) ?_)
            | (go_at_call 39; with_reducible refine Calls.mono (HN4.out _) ?_; rintro e w3 ⟨A3, k3, y3, rfl, hr3, hb3⟩; have HL3 := Lib.hid (HL.out.next hb3); have HR3 := Lib.hid hr3; clear hr3 hb3)
            | (at_builtin; go_loud (refine app_bld rfl 65 66 rfl u4 (L2 u 1) rfl HL3.out A3 4 k3 44 _ (bytesF 4 sn) (L2 u 2) rfl HR3.out (bytesF_len _ _) (by simp [L2, L1, magicL, bytesF_len, ptrBytes_len]) (by rw [HSN.out]; rfl) (by omega) ?_); intro A' c' w' hB'))
          go_roundw
          case rel => exact ⟨2, by omega, by go_num, hB'.out⟩
          case measure => simp [intOf]
        · obtain rfl : k = 0 := by omega
          have HL0 : Hid (Bld u w wr u4 (frontU u ++ List.replicate 0 0)) := by
            show Bld u w wr u4 (frontU u ++ [])
            rw [List.append_nil, ← L2_front]
            exact HL.out
          clear HL hk
          go_wp2_with fail
          go_loopw [4] (fun b wr => ∃ (j : Nat), j ≤ 80 ∧ lenV b = 44 + j ∧ Bld u w wr b (frontU u ++ List.replicate j 0)) (fun b _ => 124 - lenV b)
          case atStart =>
            refine ⟨0, by omega, ?_, HL0.out⟩
            obtain ⟨A, c, rfl, _, _⟩ := own_rd HL0.out.own
            show (frontU u ++ List.replicate 0 0).length = 44 + 0
            simp [front_len]
          case round =>
            clear HL0
            obtain ⟨j, hj, hlv, hL⟩ := hrel
            obtain ⟨A, c, rfl, hr, _⟩ := own_rd hL.own
            have hlen : (frontU u ++ List.replicate j (0 : UInt8)).length = 44 + j := by simp [front_len]
            rw [hlen] at hL
            have HL := Lib.hid hL
            have HR := Lib.hid hr
            clear hL hr hlv
            rw [hlen]
            clear hlen
            by_cases hlt : j < 80
            · have hji : (j : Int) < 80 := by omega
              have HJ := Lib.hid hlt
              clear hj hlt
              go_wp2_with (at_builtin; go_loud (refine app_bld rfl 72 73 rfl (.slice A (44 + j) c) (frontU u ++ List.replicate j 0) rfl (HL.out.next ((Below.refl _ _).alloc (Nat.le_refl _) _)) (some ⟨wr.heap.size, 0, none⟩) 1 1 (44 + (j + 1)) _ [0] (frontU u ++ List.replicate (j + 1) 0) rfl (rd_new _ #[.int .u8 0] 5) rfl (by simp [front_len]) (by rw [List.append_assoc, ← List.replicate_succ']) (by have := HJ.out; omega) ?_); intro A' c' w' hB')
              go_roundw
              case rel => exact ⟨_, _, _, _, _, _, _, ⟨j + 1, by have := HJ.out; omega, rfl, hB'.out⟩, rfl⟩
              case measure => have := HJ.out; show 124 - (44 + (j + 1)) < 124 - (44 + j); omega
            · obtain rfl : j = 80 := by omega
              have HH : Hid (Bld u w wr (.slice A 124 c) (headU u)) := HL.out
              have HRH : Hid (Rd wr wr.heap.size A (bys (headU u))) := HR.out
              clear hj hlt HL HR
              have HMR := Lib.hid (rmore_any A c _ 0 (headU u) wr HRH.out (by rw [head_len]; omega) (by omega))
              rw [head_len] at HMR
              have hq : (moreF 0 (headU u) : Int) ≤ 4294967295 := by have := HM.out; omega
              have HSL : Hid (headU u ++ bytesF 4 (moreF 0 (headU u)) = (secU u).l) := rfl
              generalize moreF 0 (headU u) = q at *
              go_wp2_with (first
                | (go_at_call 41; refine (HMR.out).mono ?_; rintro e wX ⟨rfl, rfl⟩)
                | (go_at_call 39; with_reducible refine Calls.mono (HN5.out _) ?_; rintro e w3 ⟨A3, k3, y3, rfl, hr3, hb3⟩; have HL3 := Lib.hid (HH.out.next hb3); have HR3 := Lib.hid hr3; clear hr3 hb3)
                | (at_builtin; go_loud (refine app_bld rfl 82 83 rfl (.slice A 124 c) (headU u) rfl HL3.out A3 4 k3 128 _ (bytesF 4 q) (secU u).l rfl HR3.out (bytesF_len _ _) (secU u).h HSL.out (by omega) ?_); intro A5 c5 w5 hB5)
                | (with_reducible refine st_sec rfl _ _ rfl w5.heap.size 0 zsec rfl rfl (Blk.secHas (s := zsec) (Blk.new w5 _ _)) ?_; intro w6 hw6
                   have HX6 : Hid (Blk w6 w5.heap.size 34 (bys ((secU u).l.take 0 ++ List.replicate (128 - 0) 0)).toArray) := (new_sec hw6.out).1
                   have HB6 := Lib.hid (hB5.out.base.next u (new_sec hw6.out).2)
                   have HS6 := Lib.hid hB5.out.base.size
                   obtain ⟨A6, c6, he6, hr6, _⟩ := own_rd hB5.out.own
                   have HR6 : Hid (Rd w6 w5.heap.size A5 (bys (secU u).l)) := (by
                     injection he6 with e1 _ _
                     subst e1
                     exact hr6.below (new_sec hw6.out).2)
                   clear he6 hr6 HH HRH HMR HN1 HN2 HN3 HN4 HN5 HQ HL3 HR3))
              go_loopw [18] (fun i wr => ∃ (k : Nat), k ≤ 128 ∧ i = .int .i64 k ∧ Base u w wr zsec ∧ Rd wr w5.heap.size A5 (bys (secU u).l) ∧ Blk wr w5.heap.size 34 (bys ((secU u).l.take k ++ List.replicate (128 - k) 0)).toArray) (fun i _ => 128 - (intOf i).toNat)
              case atStart => exact ⟨0, by omega, rfl, HB6.out, HR6.out, HX6.out⟩
              case round =>
                clear HB6 HR6 HX6 hw6 hB5
                obtain ⟨k, hk, rfl, hB, hR, hX⟩ := hrel
                have HB := Lib.hid hB
                have HX := Lib.hid hX
                have hsl := (secU u).h
                by_cases hlt : k < 128
                · obtain ⟨x, hx⟩ : ∃ x, (secU u).l[k]? = some x := ⟨_, List.getElem?_eq_getElem (by omega)⟩
                  obtain ⟨b, off, he, hbl, hc1⟩ := hR.at_ k (.int .u8 (x.toNat : Int)) (by rw [bys_get, hx]; rfl)
                  subst he
                  have HRR := Lib.hid hR
                  have hki : (k : Int) < 128 := by omega
                  have hc2 : wr.cell? ⟨w5.heap.size, k, none⟩ = some (.int .u8 0) := by
                    rw [hX.cell, List.getElem?_toArray, bys_get, List.getElem?_append_right (by rw [List.length_take]; omega), List.length_take, hsl, Nat.min_eq_left (by omega), Nat.sub_self, List.getElem?_replicate, if_pos (by omega)]
                    rfl
                  have hf2 : wr.frozen? ⟨w5.heap.size, k, none⟩ = false := hX.frozen k
                  have HT := Lib.hid (spl_ok hsl hlt x hx)
                  have HK := Lib.hid hlt
                  have HBL := Lib.hid hbl
                  have hbt := x.toNat_lt
                  clear hk hlt hB hR hX hx hsl hbl
                  go_wp2_with fail
                  go_roundw
                  case rel =>
                    refine ⟨k + 1, by have := HK.out; omega, by go_num, ?_, ?_, ?_⟩
                    · exact HB.out.step HS6.out ((Below.refl w5.heap.size wr).setCell (Nat.le_refl _) _)
                    · exact HRR.out.below ((Below.refl w5.heap.size wr).setCell (Nat.le_refl _) _)
                    · have h := HX.out.set_ k (.int .u8 (x.toNat : Int))
                      rw [HT.out] at h
                      exact h
                  case measure => have := HK.out; simp [intOf]; omega
                · obtain rfl : k = 128 := by omega
                  have hX' : Blk wr w5.heap.size 34 (secU u).cs.toArray := by
                    have h := hX
                    rw [List.take_of_length_le (by omega), Nat.sub_self, List.replicate_zero, List.append_nil] at h
                    exact h
                  have HXS := Lib.hid hX'
                  clear hX hX' HX hk hlt hB hR
                  go_wp2_with (first
                    | (with_reducible refine ld_sec rfl _ rfl w5.heap.size 0 (secU u) rfl HXS.out.secIs ?_)
                    | (with_reducible refine st_sec rfl _ _ rfl (w.heap.size + 1) 0 (secU u) rfl rfl HB.out.sec.secHas ?_; intro w12 hw12))
                  have hb2 : Blk w12 (w.heap.size + 1) 34 (secU u).cs.toArray := by rw [hw12.out]; exact HB.out.sec.secAll _
                  exact bodyPost_ret (results_row_tmp rfl _ _ _ _ _ _ _ rfl hb2 Try.underlying34 rfl (sizeSec'' (secU u))) rfl ⟨rfl, by rw [hw12.out]; exact Below.setCells _ (by omega) _ _ HB.out.below⟩
end

theorem rubytes_any (u : Ub) (w : World) : Calls Try.prog 13 #[.agg u.cs.toArray] w fun e w' => e = .returned (.tuple #[.agg (bytesS u).cs.toArray, .int .i64 (bytesC u)]) ∧ Below w.heap.size w w' := by
  rcases h : rightU u with _ | _
  · rw [bytesS_f h, bytesC_f h]; exact rubytes_no u h w
  · rw [bytesS_t h, bytesC_t h]; exact rubytes_yes u h w
theorem rdC_ways (l : List UInt8) : (okF l = true ∧ rdC l = 0) ∨ (okF l = false ∧ rdC l = 51 ∧ rdA l = 0 ∧ rdB l = 0) := by
  rcases h : okF l with _ | _
  · exact .inr ⟨rfl, (rd_no h).2.2.2, (rd_no h).1, (rd_no h).2.1⟩
  · exact .inl ⟨rfl, (rd_yes h).2.2.2⟩
theorem read_none {s : Sec} (h : okF (tabL s) = false) : readB s = false := by
  rcases hb : readB s with _ | _
  · rfl
  · unfold readB at hb
    rw [Bool.and_eq_true] at hb
    have h1 := (ok_of hb.1).2.2.1.1
    have h2 : (partsU s).at_ = 0 := (rd_no h).1
    omega
theorem val_sec {w1 : World} {g : Nat} {s : Sec} (h : Blk w1 g 34 s.cs.toArray) (k n : Nat) (hn : n ≤ 8) (hk : k + n ≤ 128) (x : Nat) (hx : numF ((s.l.drop k).take n) = x) : ∀ c W, Below w1.heap.size w1 W →
    Calls Try.prog 44 #[.slice (some ⟨g, k, none⟩) n c] W fun e w' => e = .returned (.int .u64 (x : Int)) ∧ w' = W := by
  intro c W hb
  subst hx
  have hl : ((s.l.drop k).take n).length = n := by rw [List.length_take, List.length_drop, s.h]; omega
  have := value_same (some ⟨g, k, none⟩) c W.heap.size ((s.l.drop k).take n) W (Sec.rd (h.below hb h.lt) k n) (by omega)
  rwa [hl] at this
theorem own_use {w : World} {base n c : Nat} {A : Option Addr} {t : List UInt8} (h : OwnB w base (.slice A n c) t) : Rd w w.heap.size A (bys t) ∧ t.length ≤ c := by
  obtain ⟨A9, c9, he, hr, hc⟩ := own_rd h
  injection he with e1 e2 e3
  subst e1 e3
  exact ⟨hr, hc⟩
theorem tab_read (s : Sec) (A : Option Addr) (c : Nat) (w : World) (hc : (tabL s).length ≤ c) (hs : Rd w w.heap.size A (bys (tabL s))) :
    Calls Try.prog 43 #[.slice A 16 c] w fun e w' => e = .returned (.tuple #[ptv (rdA (tabL s)) (rdB (tabL s)) (rdS (tabL s)), .int .i64 (rdC (tabL s))]) ∧ Below w.heap.size w w' := by
  have h := rread_any A c (tabL s) hc w hs
  rwa [tab_len] at h
section
variable (s : Sec) (w : World)
theorem rread_err (h : okF (tabL s) = false) : Calls Try.prog 15 #[.agg s.cs.toArray] w fun e w' => e = .returned (.tuple #[.agg zub.cs.toArray, .bool false]) ∧ Below w.heap.size w w' := by
  have hz : ∀ w, Sem.run Try.prog (zeroValue 27) w = .ok (.agg zub.cs.toArray) w := zeroUb
  have hbz : ∀ w, (Instr.build 27 #[]).run Try.prog w = .ok (.agg zub.cs.toArray) w := buildZU
  have hc : rdC (tabL s) = 51 := (rd_no h).2.2.2
  have HQ := Lib.hid (tab_read s)
  rw [hc] at HQ
  have HB0 := Lib.hid (baseS_new w s)
  clear h hc
  generalize hw0 : (w.alloc (.cells s.cs.toArray 34)).alloc (.cells zub.cs.toArray 27) = w0 at *
  have HRS : Hid (Rd (w0.alloc (.cells #[] 5)) w0.heap.size (some ⟨w.heap.size, 20, none⟩) (bys (tabL s))) := (Sec.rd HB0.out.sec 20 16).below ((Below.refl w0.heap.size w0).alloc (Nat.le_refl _) (.cells #[] 5))
  have HT := Lib.hid (tab_len s)
  go_enter Try.func15, Try.ntmps15
  go_wp2_with (first
    | (at_builtin; go_loud (refine app_copy rfl 10 11 rfl rfl _ (some ⟨w.heap.size, 20, none⟩) 16 16 108 (tabL s) rfl HT.out rfl HRS.out (by omega) ?_); intro A1 c1 w1 hA1 hb1
       have HB1 := Lib.hid (HB0.out.next hb1)
       have HU1 := Lib.hid (own_use hA1)
       clear hA1 hb1)
    | (go_at_call 43; with_reducible refine Calls.mono (HQ.out A1 c1 _ HU1.out.2 HU1.out.1) ?_; rintro e w2 ⟨rfl, hb2⟩
       have HB3 := Lib.hid (HB1.out.next (hb2.alloc hb2.size (pto (rdA (tabL s)) (rdB (tabL s)) (rdS (tabL s)))))
       clear hb2)
    | (with_reducible refine st_ub rfl _ _ rfl (w.heap.size + 1) 0 zub rfl rfl HB3.out.ub.ubHas ?_; intro w5 hw5))
  have hb2 : Blk w5 (w.heap.size + 1) 27 zub.cs.toArray := by rw [hw5.out]; exact HB3.out.ub.ubAll _
  exact bodyPost_ret (results_row_tmp rfl _ _ _ _ _ _ _ rfl hb2 Try.underlying27 rfl (sizeUb'' zub)) rfl ⟨rfl, by rw [hw5.out]; exact Below.setCells _ (by omega) _ _ HB3.out.below⟩
end

theorem step_stU {ops : Array Oper} {o : Oper} {a : Act} {w : World} {K : Act → World → Prop} {Q : Exit → Act → World → Prop} {E : Prop} (hgd : o.guard = none) (x y : Operand) (ho : o.op = .store 27 x y)
    (b k : Nat) (s : Ub) (hx : a.eval x = .pointer (some ⟨b, k, none⟩)) (hy : a.eval y = .agg s.cs.toArray) (ht : w.there b k 7)
    (h : K (a.put o.dst undef) (w.setCells b k s.cs)) : if Region.wanted o (yielded ops a.tmps) = true then Oper.wp Try.prog o a w K Q else E := by
  have hw : Region.wanted o (yielded ops a.tmps) = true := by simp [Region.wanted, hgd]
  rw [if_pos hw]
  exact wp_store_mid _ x y ho b k s.cs.toArray hx hy ht (sizeUb'' s) (all_one s.one) h
section
variable (s : Sec) (w : World)

set_option maxHeartbeats 4000000 in
theorem rread6_err (h : okF (tabL s) = true) (hr : rightU (partsU s) = false) : Calls Try.prog 15 #[.agg s.cs.toArray] w fun e w' => e = .returned (.tuple #[.agg zub.cs.toArray, .bool false]) ∧ Below w.heap.size w w' := by
  have hz : ∀ w, Sem.run Try.prog (zeroValue 27) w = .ok (.agg zub.cs.toArray) w := zeroUb
  have hzs : ∀ w, Sem.run Try.prog (zeroValue 34) w = .ok (.agg zsec.cs.toArray) w := zeroSec
  have hbz : ∀ w, (Instr.build 27 #[]).run Try.prog w = .ok (.agg zub.cs.toArray) w := buildZU
  have hc : rdC (tabL s) = 0 := (rd_yes h).2.2.2
  have HQ := Lib.hid (tab_read s)
  rw [hc] at HQ
  have HB0 := Lib.hid (baseS_new w s)
  clear h hc
  generalize hw0 : (w.alloc (.cells s.cs.toArray 34)).alloc (.cells zub.cs.toArray 27) = w0 at *
  have HRS : Hid (Rd (w0.alloc (.cells #[] 5)) w0.heap.size (some ⟨w.heap.size, 20, none⟩) (bys (tabL s))) := (Sec.rd HB0.out.sec 20 16).below ((Below.refl w0.heap.size w0).alloc (Nat.le_refl _) (.cells #[] 5))
  have HT := Lib.hid (tab_len s)
  go_enter Try.func15, Try.ntmps15
  go_wp2_with (first
    | (at_builtin; go_loud (refine app_copy rfl 10 11 rfl rfl _ (some ⟨w.heap.size, 20, none⟩) 16 16 108 (tabL s) rfl HT.out rfl HRS.out (by omega) ?_); intro A1 c1 w1 hA1 hb1
       have HB1 := Lib.hid (HB0.out.next hb1)
       have HU1 := Lib.hid (own_use hA1)
       clear hA1 hb1)
    | (go_at_call 43; with_reducible refine Calls.mono (HQ.out A1 c1 _ HU1.out.2 HU1.out.1) ?_; rintro e w2 ⟨rfl, hb2⟩
       have HB3 := Lib.hid (HB1.out.next (hb2.alloc hb2.size (pto (rdA (tabL s)) (rdB (tabL s)) (rdS (tabL s)))))
       have HP3 := Lib.hid (Blk.new w2 25 (pcs (rdA (tabL s)) (rdB (tabL s)) (rdS (tabL s))))
       clear hb2))
  generalize hw3 : w2.alloc (pto (rdA (tabL s)) (rdB (tabL s)) (rdS (tabL s))) = w3 at *
  have HV1 := Lib.hid (fun (c : Nat) (W : World) (h : BaseS w W s zub) => val_sec h.sec 4 8 (by omega) (by omega) (txgN s) rfl c W (Below.refl _ _))
  have HV2 := Lib.hid (fun (c : Nat) (W : World) (h : BaseS w W s zub) => val_sec h.sec 12 8 (by omega) (by omega) (stmN s) rfl c W (Below.refl _ _))
  have HV3 := Lib.hid (fun (c : Nat) (W : World) (h : BaseS w W s zub) => val_sec h.sec 36 4 (by omega) (by omega) (lenN s) rfl c W (Below.refl _ _))
  have HV4 := Lib.hid (fun (c : Nat) (W : World) (h : BaseS w W s zub) => val_sec h.sec 40 4 (by omega) (by omega) (secN s) rfl c W (Below.refl _ _))
  have HBU := Lib.hid (build_parts s)
  have hw1 : IntKind.i64.wrap (lenN s : Int) = (lenN s : Int) := by have := num4_lt (s.l.drop 36); rw [IntKind.wrap_i64]; unfold lenN; omega
  have hw2' : IntKind.i64.wrap (secN s : Int) = (secN s : Int) := by have := num4_lt (s.l.drop 40); rw [IntKind.wrap_i64]; unfold secN; omega
  have HY := Lib.hid (rubytes_any (partsU s))

  rw [bytesS_f hr, bytesC_f hr] at HY
  clear hr
  have hS1 : Hid ((fun w' => BaseS w w' s zub ∧ Blk w' w2.heap.size 25 (pcs (rdA (tabL s)) (rdB (tabL s)) (rdS (tabL s)))) w3.drew) := ⟨HB3.out.next (Below.refl _ _).drew, HP3.out⟩
  refine wp_region_held_drew (S := (fun w' => BaseS w w' s zub ∧ Blk w' w2.heap.size 25 (pcs (rdA (tabL s)) (rdB (tabL s)) (rdS (tabL s))))) (by kernel_rfl) hS1.out (fun hHeld => ?_)
  clear hS1 HB3 HP3 HB1 HU1 HB0 HRS HT HQ
  generalize w3.drew = w4 at *
  generalize txgN s = n1 at *
  generalize stmN s = n2 at *
  generalize lenN s = n3 at *
  generalize secN s = n4 at *
  generalize rdA (tabL s) = q1 at *
  generalize rdB (tabL s) = q2 at *
  generalize rdS (tabL s) = q3 at *
  refine wpAnyH_take (i := 0) (v := (.slice (some ⟨w.heap.size, 4, none⟩) 8 124)) rfl (by kernel_rfl) (by kernel_rfl) (by kernel_rfl) (fun _ _ _ h => h) (Or.inl ⟨by rfl, ?_⟩) (by assumption) ?_
  · intro w' hS; go_simp; try with_reducible rfl
  try simp [Act.put]
  refine wpAnyH_take (i := 2) (v := (.slice (some ⟨w.heap.size, 12, none⟩) 8 116)) rfl (by kernel_rfl) (by kernel_rfl) (by kernel_rfl) (fun _ _ _ h => h) (Or.inl ⟨by rfl, ?_⟩) (by assumption) ?_
  · intro w' hS; go_simp; try with_reducible rfl
  try simp [Act.put]
  refine wpAnyH_take (i := 4) (v := (ptv q1 q2 q3)) rfl (by kernel_rfl) (by kernel_rfl) (by kernel_rfl) (fun _ _ _ h => h) (Or.inl ⟨by rfl, ?_⟩) (by assumption) ?_
  · intro w' hS
    obtain ⟨_, hP⟩ := hS
    have p0 := hP.cell 0
    have p1 := hP.cell 1
    have p2 := hP.cell 2
    clear hP
    go_simp
    try with_reducible rfl
  try simp [Act.put]
  refine wpAnyH_take (i := 5) (v := (.slice (some ⟨w.heap.size, 36, none⟩) 4 92)) rfl (by kernel_rfl) (by kernel_rfl) (by kernel_rfl) (fun _ _ _ h => h) (Or.inl ⟨by rfl, ?_⟩) (by assumption) ?_
  · intro w' hS; go_simp; try with_reducible rfl
  try simp [Act.put]
  refine wpAnyH_take (i := 8) (v := (.slice (some ⟨w.heap.size, 40, none⟩) 4 88)) rfl (by kernel_rfl) (by kernel_rfl) (by kernel_rfl) (fun _ _ _ h => h) (Or.inl ⟨by rfl, ?_⟩) (by assumption) ?_
  · intro w' hS; go_simp; try with_reducible rfl
  try simp [Act.put]
  have hH4 := Lib.hid hHeld
  refine wpAnyH_ready (rs := [1, 12]) (by kernel_rfl) (by simp) ?_
  refine AllReadyH.cons rfl (fun K hK => ?_) (AllReadyH.cons rfl (fun K hK => ?_) AllReadyH.nil)
  · skip
    go_simp
    refine Calls.mono (HV1.out _ _ hHeld.1) ?_
    rintro e wX ⟨rfl, hwX⟩
    rw [hwX]
    clear hwX wX
    refine hK.out _ _ hHeld (fun hHeld2 => ?_)
    clear hK K
    try simp
    clear hHeld2
    refine wpAnyH_ready (rs := [3, 12]) (by kernel_rfl) (by simp) ?_
    refine AllReadyH.cons rfl (fun K hK => ?_) (AllReadyH.cons rfl (fun K hK => ?_) AllReadyH.nil)
    · skip
      go_simp
      refine Calls.mono (HV2.out _ _ hHeld.1) ?_
      rintro e wX ⟨rfl, hwX⟩
      rw [hwX]
      clear hwX wX
      refine hK.out _ _ hHeld (fun hHeld2 => ?_)
      clear hK K
      try simp
      clear hHeld2
      refine wpAnyH_ready (rs := [6, 12]) (by kernel_rfl) (by simp) ?_
      refine AllReadyH.cons rfl (fun K hK => ?_) (AllReadyH.cons rfl (fun K hK => ?_) AllReadyH.nil)
      · skip
        go_simp
        refine Calls.mono (HV3.out _ _ hHeld.1) ?_
        rintro e wX ⟨rfl, hwX⟩
        rw [hwX]
        clear hwX wX
        refine hK.out _ _ hHeld (fun hHeld2 => ?_)
        clear hK K
        try simp
        clear hHeld2
        refine wpAnyH_take (i := 7) (v := (.int .i64 (n3 : Int))) rfl (by kernel_rfl) (by kernel_rfl) (by kernel_rfl) (fun _ _ _ h => h) (Or.inl ⟨by rfl, ?_⟩) (by assumption) ?_
        · intro w' hS; go_simp; try with_reducible rfl
        try simp [Act.put]
        refine wpAnyH_ready (rs := [9, 12]) (by kernel_rfl) (by simp) ?_
        refine AllReadyH.cons rfl (fun K hK => ?_) (AllReadyH.cons rfl (fun K hK => ?_) AllReadyH.nil)
        · skip
          go_simp
          refine Calls.mono (HV4.out _ _ hHeld.1) ?_
          rintro e wX ⟨rfl, hwX⟩
          rw [hwX]
          clear hwX wX
          refine hK.out _ _ hHeld (fun hHeld2 => ?_)
          clear hK K
          try simp
          clear hHeld2
          refine wpAnyH_take (i := 10) (v := (.int .i64 (n4 : Int))) rfl (by kernel_rfl) (by kernel_rfl) (by kernel_rfl) (fun _ _ _ h => h) (Or.inl ⟨by rfl, ?_⟩) (by assumption) ?_
          · intro w' hS; go_simp; try with_reducible rfl
          try simp [Act.put]
          refine wpAnyH_take (i := 11) (v := (.agg (partsU s).cs.toArray)) rfl (by kernel_rfl) (by kernel_rfl) (by kernel_rfl) (fun _ _ _ h => h) (Or.inl ⟨by rfl, ?_⟩) (by assumption) ?_
          · intro w' hS
            exact ex_build5 (.tmp 20) (.tmp 22) (.tmp 23) (.tmp 26) (.tmp 29) rfl (.int .u64 (n1 : Int)) (.int .u64 (n2 : Int)) (ptv q1 q2 q3) (.int .i64 (n3 : Int)) (.int .i64 (n4 : Int)) _ rfl rfl rfl rfl rfl (HBU.out _)
          try simp [Act.put]
          refine wpAnyH_ready (rs := [12]) (by kernel_rfl) (by simp) ?_
          refine AllReadyH.cons rfl (fun K hK => ?_) AllReadyH.nil
          go_simp
          refine hK.out _ _ ⟨hHeld.1.next ((Below.refl _ _).alloc (Nat.le_refl _) _), hHeld.2.below ((Below.refl _ _).alloc (Nat.le_refl _) (.cells zub.cs.toArray 27)) hHeld.2.lt⟩ (fun hHeld2 => ?_)
          clear hK K
          try simp
          clear hHeld
          have hHeld := hHeld2
          clear hHeld2
          refine wpAnyH_ready (rs := [13]) (by kernel_rfl) (by simp) ?_
          refine AllReadyH.cons rfl (fun K hK => ?_) AllReadyH.nil
          refine step_stU rfl (.tmp 6) (.tmp 30) rfl w4.heap.size 0 (partsU s) rfl rfl (Blk.ubHas (u := zub) (Blk.new w4 _ _)) ?_
          refine hK.out _ _ ⟨hH4.out.1.next (new_ub rfl).2, hH4.out.2.below (new_ub (x := partsU s) rfl).2 hH4.out.2.lt⟩ (fun hHeld2 => ?_)
          clear hK K hHeld
          try simp [Act.put]
          refine wpAnyH_done (by kernel_rfl) ?_ _
          have HB5 := Lib.hid hHeld2.1
          have HU5 := Lib.hid (new_ub (w := w4) (x := partsU s) rfl).1
          clear hHeld2 hH4
          generalize hw5 : (w4.alloc (.cells zub.cs.toArray 27)).setCells w4.heap.size 0 (partsU s).cs = w5 at *
          clear hw5
          go_wp2_with (first
            | (with_reducible refine st_ub rfl _ _ rfl (w.heap.size + 1) 0 zub rfl rfl HB7.out.ub.ubHas ?_; intro w8 hw8)
            | (with_reducible refine ld_ub rfl _ rfl w4.heap.size 0 (partsU s) rfl HU5.out.ubIs ?_)
            | (go_at_call 13; with_reducible refine Calls.mono (HY.out _) ?_; rintro e w6 ⟨rfl, hb6⟩; have HB6 := Lib.hid (HB5.out.next hb6); have HU6 := Lib.hid (HU5.out.below hb6 HU5.out.lt); clear hb6)
            | (with_reducible refine st_sec rfl _ _ rfl w6.heap.size 0 zsec rfl rfl (Blk.secHas (s := zsec) (Blk.new w6 _ _)) ?_; intro w7 hw7
               have HB7 := Lib.hid (HB6.out.next (new_sec hw7.out).2)
               have HS7 := Lib.hid (new_sec hw7.out).1
               have HU7 := Lib.hid (HU6.out.below (new_sec hw7.out).2 HU6.out.lt)))
          have hb2 : Blk w8 (w.heap.size + 1) 27 (Ub.cs zub).toArray := by rw [hw8.out]; exact HB7.out.ub.ubAll _
          exact bodyPost_ret (results_row_tmp rfl _ _ _ _ _ _ _ rfl hb2 Try.underlying27 rfl (sizeUb'' zub)) rfl ⟨rfl, by rw [hw8.out]; exact Below.setCells _ (by omega) _ _ HB7.out.below⟩
        · skip
          go_simp
          refine hK.out _ _ ⟨hHeld.1.next ((Below.refl _ _).alloc (Nat.le_refl _) _), hHeld.2.below ((Below.refl _ _).alloc (Nat.le_refl _) (.cells zub.cs.toArray 27)) hHeld.2.lt⟩ (fun hHeld2 => ?_)
          clear hK K
          try simp
          clear hHeld
          have hHeld := hHeld2
          clear hHeld2
          refine wpAnyH_ready (rs := [9]) (by kernel_rfl) (by simp) ?_
          refine AllReadyH.cons rfl (fun K hK => ?_) AllReadyH.nil
          go_simp
          refine Calls.mono (HV4.out _ _ hHeld.1) ?_
          rintro e wX ⟨rfl, hwX⟩
          rw [hwX]
          clear hwX wX
          refine hK.out _ _ hHeld (fun hHeld2 => ?_)
          clear hK K
          try simp
          clear hHeld2
          refine wpAnyH_take (i := 10) (v := (.int .i64 (n4 : Int))) rfl (by kernel_rfl) (by kernel_rfl) (by kernel_rfl) (fun _ _ _ h => h) (Or.inl ⟨by rfl, ?_⟩) (by assumption) ?_
          · intro w' hS; go_simp; try with_reducible rfl
          try simp [Act.put]
          refine wpAnyH_take (i := 11) (v := (.agg (partsU s).cs.toArray)) rfl (by kernel_rfl) (by kernel_rfl) (by kernel_rfl) (fun _ _ _ h => h) (Or.inl ⟨by rfl, ?_⟩) (by assumption) ?_
          · intro w' hS
            exact ex_build5 (.tmp 20) (.tmp 22) (.tmp 23) (.tmp 26) (.tmp 29) rfl (.int .u64 (n1 : Int)) (.int .u64 (n2 : Int)) (ptv q1 q2 q3) (.int .i64 (n3 : Int)) (.int .i64 (n4 : Int)) _ rfl rfl rfl rfl rfl (HBU.out _)
          try simp [Act.put]
          refine wpAnyH_ready (rs := [13]) (by kernel_rfl) (by simp) ?_
          refine AllReadyH.cons rfl (fun K hK => ?_) AllReadyH.nil
          refine step_stU rfl (.tmp 6) (.tmp 30) rfl w4.heap.size 0 (partsU s) rfl rfl (Blk.ubHas (u := zub) (Blk.new w4 _ _)) ?_
          refine hK.out _ _ ⟨hH4.out.1.next (new_ub rfl).2, hH4.out.2.below (new_ub (x := partsU s) rfl).2 hH4.out.2.lt⟩ (fun hHeld2 => ?_)
          clear hK K hHeld
          try simp [Act.put]
          refine wpAnyH_done (by kernel_rfl) ?_ _
          have HB5 := Lib.hid hHeld2.1
          have HU5 := Lib.hid (new_ub (w := w4) (x := partsU s) rfl).1
          clear hHeld2 hH4
          generalize hw5 : (w4.alloc (.cells zub.cs.toArray 27)).setCells w4.heap.size 0 (partsU s).cs = w5 at *
          clear hw5
          go_wp2_with (first
            | (with_reducible refine st_ub rfl _ _ rfl (w.heap.size + 1) 0 zub rfl rfl HB7.out.ub.ubHas ?_; intro w8 hw8)
            | (with_reducible refine ld_ub rfl _ rfl w4.heap.size 0 (partsU s) rfl HU5.out.ubIs ?_)
            | (go_at_call 13; with_reducible refine Calls.mono (HY.out _) ?_; rintro e w6 ⟨rfl, hb6⟩; have HB6 := Lib.hid (HB5.out.next hb6); have HU6 := Lib.hid (HU5.out.below hb6 HU5.out.lt); clear hb6)
            | (with_reducible refine st_sec rfl _ _ rfl w6.heap.size 0 zsec rfl rfl (Blk.secHas (s := zsec) (Blk.new w6 _ _)) ?_; intro w7 hw7
               have HB7 := Lib.hid (HB6.out.next (new_sec hw7.out).2)
               have HS7 := Lib.hid (new_sec hw7.out).1
               have HU7 := Lib.hid (HU6.out.below (new_sec hw7.out).2 HU6.out.lt)))
          have hb2 : Blk w8 (w.heap.size + 1) 27 (Ub.cs zub).toArray := by rw [hw8.out]; exact HB7.out.ub.ubAll _
          exact bodyPost_ret (results_row_tmp rfl _ _ _ _ _ _ _ rfl hb2 Try.underlying27 rfl (sizeUb'' zub)) rfl ⟨rfl, by rw [hw8.out]; exact Below.setCells _ (by omega) _ _ HB7.out.below⟩
      · skip
        go_simp
        refine hK.out _ _ ⟨hHeld.1.next ((Below.refl _ _).alloc (Nat.le_refl _) _), hHeld.2.below ((Below.refl _ _).alloc (Nat.le_refl _) (.cells zub.cs.toArray 27)) hHeld.2.lt⟩ (fun hHeld2 => ?_)
        clear hK K
        try simp
        clear hHeld
        have hHeld := hHeld2
        clear hHeld2
        refine wpAnyH_ready (rs := [6]) (by kernel_rfl) (by simp) ?_
        refine AllReadyH.cons rfl (fun K hK => ?_) AllReadyH.nil
        go_simp
        refine Calls.mono (HV3.out _ _ hHeld.1) ?_
        rintro e wX ⟨rfl, hwX⟩
        rw [hwX]
        clear hwX wX
        refine hK.out _ _ hHeld (fun hHeld2 => ?_)
        clear hK K
        try simp
        clear hHeld2
        refine wpAnyH_take (i := 7) (v := (.int .i64 (n3 : Int))) rfl (by kernel_rfl) (by kernel_rfl) (by kernel_rfl) (fun _ _ _ h => h) (Or.inl ⟨by rfl, ?_⟩) (by assumption) ?_
        · intro w' hS; go_simp; try with_reducible rfl
        try simp [Act.put]
        refine wpAnyH_ready (rs := [9]) (by kernel_rfl) (by simp) ?_
        refine AllReadyH.cons rfl (fun K hK => ?_) AllReadyH.nil
        go_simp
        refine Calls.mono (HV4.out _ _ hHeld.1) ?_
        rintro e wX ⟨rfl, hwX⟩
        rw [hwX]
        clear hwX wX
        refine hK.out _ _ hHeld (fun hHeld2 => ?_)
        clear hK K
        try simp
        clear hHeld2
        refine wpAnyH_take (i := 10) (v := (.int .i64 (n4 : Int))) rfl (by kernel_rfl) (by kernel_rfl) (by kernel_rfl) (fun _ _ _ h => h) (Or.inl ⟨by rfl, ?_⟩) (by assumption) ?_
        · intro w' hS; go_simp; try with_reducible rfl
        try simp [Act.put]
        refine wpAnyH_take (i := 11) (v := (.agg (partsU s).cs.toArray)) rfl (by kernel_rfl) (by kernel_rfl) (by kernel_rfl) (fun _ _ _ h => h) (Or.inl ⟨by rfl, ?_⟩) (by assumption) ?_
        · intro w' hS
          exact ex_build5 (.tmp 20) (.tmp 22) (.tmp 23) (.tmp 26) (.tmp 29) rfl (.int .u64 (n1 : Int)) (.int .u64 (n2 : Int)) (ptv q1 q2 q3) (.int .i64 (n3 : Int)) (.int .i64 (n4 : Int)) _ rfl rfl rfl rfl rfl (HBU.out _)
        try simp [Act.put]
        refine wpAnyH_ready (rs := [13]) (by kernel_rfl) (by simp) ?_
        refine AllReadyH.cons rfl (fun K hK => ?_) AllReadyH.nil
        refine step_stU rfl (.tmp 6) (.tmp 30) rfl w4.heap.size 0 (partsU s) rfl rfl (Blk.ubHas (u := zub) (Blk.new w4 _ _)) ?_
        refine hK.out _ _ ⟨hH4.out.1.next (new_ub rfl).2, hH4.out.2.below (new_ub (x := partsU s) rfl).2 hH4.out.2.lt⟩ (fun hHeld2 => ?_)
        clear hK K hHeld
        try simp [Act.put]
        refine wpAnyH_done (by kernel_rfl) ?_ _
        have HB5 := Lib.hid hHeld2.1
        have HU5 := Lib.hid (new_ub (w := w4) (x := partsU s) rfl).1
        clear hHeld2 hH4
        generalize hw5 : (w4.alloc (.cells zub.cs.toArray 27)).setCells w4.heap.size 0 (partsU s).cs = w5 at *
        clear hw5
        go_wp2_with (first
          | (with_reducible refine st_ub rfl _ _ rfl (w.heap.size + 1) 0 zub rfl rfl HB7.out.ub.ubHas ?_; intro w8 hw8)
          | (with_reducible refine ld_ub rfl _ rfl w4.heap.size 0 (partsU s) rfl HU5.out.ubIs ?_)
          | (go_at_call 13; with_reducible refine Calls.mono (HY.out _) ?_; rintro e w6 ⟨rfl, hb6⟩; have HB6 := Lib.hid (HB5.out.next hb6); have HU6 := Lib.hid (HU5.out.below hb6 HU5.out.lt); clear hb6)
          | (with_reducible refine st_sec rfl _ _ rfl w6.heap.size 0 zsec rfl rfl (Blk.secHas (s := zsec) (Blk.new w6 _ _)) ?_; intro w7 hw7
             have HB7 := Lib.hid (HB6.out.next (new_sec hw7.out).2)
             have HS7 := Lib.hid (new_sec hw7.out).1
             have HU7 := Lib.hid (HU6.out.below (new_sec hw7.out).2 HU6.out.lt)))
        have hb2 : Blk w8 (w.heap.size + 1) 27 (Ub.cs zub).toArray := by rw [hw8.out]; exact HB7.out.ub.ubAll _
        exact bodyPost_ret (results_row_tmp rfl _ _ _ _ _ _ _ rfl hb2 Try.underlying27 rfl (sizeUb'' zub)) rfl ⟨rfl, by rw [hw8.out]; exact Below.setCells _ (by omega) _ _ HB7.out.below⟩
    · skip
      go_simp
      refine hK.out _ _ ⟨hHeld.1.next ((Below.refl _ _).alloc (Nat.le_refl _) _), hHeld.2.below ((Below.refl _ _).alloc (Nat.le_refl _) (.cells zub.cs.toArray 27)) hHeld.2.lt⟩ (fun hHeld2 => ?_)
      clear hK K
      try simp
      clear hHeld
      have hHeld := hHeld2
      clear hHeld2
      refine wpAnyH_ready (rs := [3]) (by kernel_rfl) (by simp) ?_
      refine AllReadyH.cons rfl (fun K hK => ?_) AllReadyH.nil
      go_simp
      refine Calls.mono (HV2.out _ _ hHeld.1) ?_
      rintro e wX ⟨rfl, hwX⟩
      rw [hwX]
      clear hwX wX
      refine hK.out _ _ hHeld (fun hHeld2 => ?_)
      clear hK K
      try simp
      clear hHeld2
      refine wpAnyH_ready (rs := [6]) (by kernel_rfl) (by simp) ?_
      refine AllReadyH.cons rfl (fun K hK => ?_) AllReadyH.nil
      go_simp
      refine Calls.mono (HV3.out _ _ hHeld.1) ?_
      rintro e wX ⟨rfl, hwX⟩
      rw [hwX]
      clear hwX wX
      refine hK.out _ _ hHeld (fun hHeld2 => ?_)
      clear hK K
      try simp
      clear hHeld2
      refine wpAnyH_take (i := 7) (v := (.int .i64 (n3 : Int))) rfl (by kernel_rfl) (by kernel_rfl) (by kernel_rfl) (fun _ _ _ h => h) (Or.inl ⟨by rfl, ?_⟩) (by assumption) ?_
      · intro w' hS; go_simp; try with_reducible rfl
      try simp [Act.put]
      refine wpAnyH_ready (rs := [9]) (by kernel_rfl) (by simp) ?_
      refine AllReadyH.cons rfl (fun K hK => ?_) AllReadyH.nil
      go_simp
      refine Calls.mono (HV4.out _ _ hHeld.1) ?_
      rintro e wX ⟨rfl, hwX⟩
      rw [hwX]
      clear hwX wX
      refine hK.out _ _ hHeld (fun hHeld2 => ?_)
      clear hK K
      try simp
      clear hHeld2
      refine wpAnyH_take (i := 10) (v := (.int .i64 (n4 : Int))) rfl (by kernel_rfl) (by kernel_rfl) (by kernel_rfl) (fun _ _ _ h => h) (Or.inl ⟨by rfl, ?_⟩) (by assumption) ?_
      · intro w' hS; go_simp; try with_reducible rfl
      try simp [Act.put]
      refine wpAnyH_take (i := 11) (v := (.agg (partsU s).cs.toArray)) rfl (by kernel_rfl) (by kernel_rfl) (by kernel_rfl) (fun _ _ _ h => h) (Or.inl ⟨by rfl, ?_⟩) (by assumption) ?_
      · intro w' hS
        exact ex_build5 (.tmp 20) (.tmp 22) (.tmp 23) (.tmp 26) (.tmp 29) rfl (.int .u64 (n1 : Int)) (.int .u64 (n2 : Int)) (ptv q1 q2 q3) (.int .i64 (n3 : Int)) (.int .i64 (n4 : Int)) _ rfl rfl rfl rfl rfl (HBU.out _)
      try simp [Act.put]
      refine wpAnyH_ready (rs := [13]) (by kernel_rfl) (by simp) ?_
      refine AllReadyH.cons rfl (fun K hK => ?_) AllReadyH.nil
      refine step_stU rfl (.tmp 6) (.tmp 30) rfl w4.heap.size 0 (partsU s) rfl rfl (Blk.ubHas (u := zub) (Blk.new w4 _ _)) ?_
      refine hK.out _ _ ⟨hH4.out.1.next (new_ub rfl).2, hH4.out.2.below (new_ub (x := partsU s) rfl).2 hH4.out.2.lt⟩ (fun hHeld2 => ?_)
      clear hK K hHeld
      try simp [Act.put]
      refine wpAnyH_done (by kernel_rfl) ?_ _
      have HB5 := Lib.hid hHeld2.1
      have HU5 := Lib.hid (new_ub (w := w4) (x := partsU s) rfl).1
      clear hHeld2 hH4
      generalize hw5 : (w4.alloc (.cells zub.cs.toArray 27)).setCells w4.heap.size 0 (partsU s).cs = w5 at *
      clear hw5
      go_wp2_with (first
        | (with_reducible refine st_ub rfl _ _ rfl (w.heap.size + 1) 0 zub rfl rfl HB7.out.ub.ubHas ?_; intro w8 hw8)
        | (with_reducible refine ld_ub rfl _ rfl w4.heap.size 0 (partsU s) rfl HU5.out.ubIs ?_)
        | (go_at_call 13; with_reducible refine Calls.mono (HY.out _) ?_; rintro e w6 ⟨rfl, hb6⟩; have HB6 := Lib.hid (HB5.out.next hb6); have HU6 := Lib.hid (HU5.out.below hb6 HU5.out.lt); clear hb6)
        | (with_reducible refine st_sec rfl _ _ rfl w6.heap.size 0 zsec rfl rfl (Blk.secHas (s := zsec) (Blk.new w6 _ _)) ?_; intro w7 hw7
           have HB7 := Lib.hid (HB6.out.next (new_sec hw7.out).2)
           have HS7 := Lib.hid (new_sec hw7.out).1
           have HU7 := Lib.hid (HU6.out.below (new_sec hw7.out).2 HU6.out.lt)))
      have hb2 : Blk w8 (w.heap.size + 1) 27 (Ub.cs zub).toArray := by rw [hw8.out]; exact HB7.out.ub.ubAll _
      exact bodyPost_ret (results_row_tmp rfl _ _ _ _ _ _ _ rfl hb2 Try.underlying27 rfl (sizeUb'' zub)) rfl ⟨rfl, by rw [hw8.out]; exact Below.setCells _ (by omega) _ _ HB7.out.below⟩
  · skip
    go_simp
    refine hK.out _ _ ⟨hHeld.1.next ((Below.refl _ _).alloc (Nat.le_refl _) _), hHeld.2.below ((Below.refl _ _).alloc (Nat.le_refl _) (.cells zub.cs.toArray 27)) hHeld.2.lt⟩ (fun hHeld2 => ?_)
    clear hK K
    try simp
    clear hHeld
    have hHeld := hHeld2
    clear hHeld2
    refine wpAnyH_ready (rs := [1]) (by kernel_rfl) (by simp) ?_
    refine AllReadyH.cons rfl (fun K hK => ?_) AllReadyH.nil
    go_simp
    refine Calls.mono (HV1.out _ _ hHeld.1) ?_
    rintro e wX ⟨rfl, hwX⟩
    rw [hwX]
    clear hwX wX
    refine hK.out _ _ hHeld (fun hHeld2 => ?_)
    clear hK K
    try simp
    clear hHeld2
    refine wpAnyH_ready (rs := [3]) (by kernel_rfl) (by simp) ?_
    refine AllReadyH.cons rfl (fun K hK => ?_) AllReadyH.nil
    go_simp
    refine Calls.mono (HV2.out _ _ hHeld.1) ?_
    rintro e wX ⟨rfl, hwX⟩
    rw [hwX]
    clear hwX wX
    refine hK.out _ _ hHeld (fun hHeld2 => ?_)
    clear hK K
    try simp
    clear hHeld2
    refine wpAnyH_ready (rs := [6]) (by kernel_rfl) (by simp) ?_
    refine AllReadyH.cons rfl (fun K hK => ?_) AllReadyH.nil
    go_simp
    refine Calls.mono (HV3.out _ _ hHeld.1) ?_
    rintro e wX ⟨rfl, hwX⟩
    rw [hwX]
    clear hwX wX
    refine hK.out _ _ hHeld (fun hHeld2 => ?_)
    clear hK K
    try simp
    clear hHeld2
    refine wpAnyH_take (i := 7) (v := (.int .i64 (n3 : Int))) rfl (by kernel_rfl) (by kernel_rfl) (by kernel_rfl) (fun _ _ _ h => h) (Or.inl ⟨by rfl, ?_⟩) (by assumption) ?_
    · intro w' hS; go_simp; try with_reducible rfl
    try simp [Act.put]
    refine wpAnyH_ready (rs := [9]) (by kernel_rfl) (by simp) ?_
    refine AllReadyH.cons rfl (fun K hK => ?_) AllReadyH.nil
    go_simp
    refine Calls.mono (HV4.out _ _ hHeld.1) ?_
    rintro e wX ⟨rfl, hwX⟩
    rw [hwX]
    clear hwX wX
    refine hK.out _ _ hHeld (fun hHeld2 => ?_)
    clear hK K
    try simp
    clear hHeld2
    refine wpAnyH_take (i := 10) (v := (.int .i64 (n4 : Int))) rfl (by kernel_rfl) (by kernel_rfl) (by kernel_rfl) (fun _ _ _ h => h) (Or.inl ⟨by rfl, ?_⟩) (by assumption) ?_
    · intro w' hS; go_simp; try with_reducible rfl
    try simp [Act.put]
    refine wpAnyH_take (i := 11) (v := (.agg (partsU s).cs.toArray)) rfl (by kernel_rfl) (by kernel_rfl) (by kernel_rfl) (fun _ _ _ h => h) (Or.inl ⟨by rfl, ?_⟩) (by assumption) ?_
    · intro w' hS
      exact ex_build5 (.tmp 20) (.tmp 22) (.tmp 23) (.tmp 26) (.tmp 29) rfl (.int .u64 (n1 : Int)) (.int .u64 (n2 : Int)) (ptv q1 q2 q3) (.int .i64 (n3 : Int)) (.int .i64 (n4 : Int)) _ rfl rfl rfl rfl rfl (HBU.out _)
    try simp [Act.put]
    refine wpAnyH_ready (rs := [13]) (by kernel_rfl) (by simp) ?_
    refine AllReadyH.cons rfl (fun K hK => ?_) AllReadyH.nil
    refine step_stU rfl (.tmp 6) (.tmp 30) rfl w4.heap.size 0 (partsU s) rfl rfl (Blk.ubHas (u := zub) (Blk.new w4 _ _)) ?_
    refine hK.out _ _ ⟨hH4.out.1.next (new_ub rfl).2, hH4.out.2.below (new_ub (x := partsU s) rfl).2 hH4.out.2.lt⟩ (fun hHeld2 => ?_)
    clear hK K hHeld
    try simp [Act.put]
    refine wpAnyH_done (by kernel_rfl) ?_ _
    have HB5 := Lib.hid hHeld2.1
    have HU5 := Lib.hid (new_ub (w := w4) (x := partsU s) rfl).1
    clear hHeld2 hH4
    generalize hw5 : (w4.alloc (.cells zub.cs.toArray 27)).setCells w4.heap.size 0 (partsU s).cs = w5 at *
    clear hw5
    go_wp2_with (first
      | (with_reducible refine st_ub rfl _ _ rfl (w.heap.size + 1) 0 zub rfl rfl HB7.out.ub.ubHas ?_; intro w8 hw8)
      | (with_reducible refine ld_ub rfl _ rfl w4.heap.size 0 (partsU s) rfl HU5.out.ubIs ?_)
      | (go_at_call 13; with_reducible refine Calls.mono (HY.out _) ?_; rintro e w6 ⟨rfl, hb6⟩; have HB6 := Lib.hid (HB5.out.next hb6); have HU6 := Lib.hid (HU5.out.below hb6 HU5.out.lt); clear hb6)
      | (with_reducible refine st_sec rfl _ _ rfl w6.heap.size 0 zsec rfl rfl (Blk.secHas (s := zsec) (Blk.new w6 _ _)) ?_; intro w7 hw7
         have HB7 := Lib.hid (HB6.out.next (new_sec hw7.out).2)
         have HS7 := Lib.hid (new_sec hw7.out).1
         have HU7 := Lib.hid (HU6.out.below (new_sec hw7.out).2 HU6.out.lt)))
    have hb2 : Blk w8 (w.heap.size + 1) 27 (Ub.cs zub).toArray := by rw [hw8.out]; exact HB7.out.ub.ubAll _
    exact bodyPost_ret (results_row_tmp rfl _ _ _ _ _ _ _ rfl hb2 Try.underlying27 rfl (sizeUb'' zub)) rfl ⟨rfl, by rw [hw8.out]; exact Below.setCells _ (by omega) _ _ HB7.out.below⟩
set_option maxHeartbeats 4000000 in
theorem rread6_un (h : okF (tabL s) = true) (hr : rightU (partsU s) = true) (hsm : (secU (partsU s)).same s = false) : Calls Try.prog 15 #[.agg s.cs.toArray] w fun e w' => e = .returned (.tuple #[.agg zub.cs.toArray, .bool false]) ∧ Below w.heap.size w w' := by
  have hz : ∀ w, Sem.run Try.prog (zeroValue 27) w = .ok (.agg zub.cs.toArray) w := zeroUb
  have hzs : ∀ w, Sem.run Try.prog (zeroValue 34) w = .ok (.agg zsec.cs.toArray) w := zeroSec
  have hbz : ∀ w, (Instr.build 27 #[]).run Try.prog w = .ok (.agg zub.cs.toArray) w := buildZU
  have hc : rdC (tabL s) = 0 := (rd_yes h).2.2.2
  have HQ := Lib.hid (tab_read s)
  rw [hc] at HQ
  have HB0 := Lib.hid (baseS_new w s)
  clear h hc
  generalize hw0 : (w.alloc (.cells s.cs.toArray 34)).alloc (.cells zub.cs.toArray 27) = w0 at *
  have HRS : Hid (Rd (w0.alloc (.cells #[] 5)) w0.heap.size (some ⟨w.heap.size, 20, none⟩) (bys (tabL s))) := (Sec.rd HB0.out.sec 20 16).below ((Below.refl w0.heap.size w0).alloc (Nat.le_refl _) (.cells #[] 5))
  have HT := Lib.hid (tab_len s)
  go_enter Try.func15, Try.ntmps15
  go_wp2_with (first
    | (at_builtin; go_loud (refine app_copy rfl 10 11 rfl rfl _ (some ⟨w.heap.size, 20, none⟩) 16 16 108 (tabL s) rfl HT.out rfl HRS.out (by omega) ?_); intro A1 c1 w1 hA1 hb1
       have HB1 := Lib.hid (HB0.out.next hb1)
       have HU1 := Lib.hid (own_use hA1)
       clear hA1 hb1)
    | (go_at_call 43; with_reducible refine Calls.mono (HQ.out A1 c1 _ HU1.out.2 HU1.out.1) ?_; rintro e w2 ⟨rfl, hb2⟩
       have HB3 := Lib.hid (HB1.out.next (hb2.alloc hb2.size (pto (rdA (tabL s)) (rdB (tabL s)) (rdS (tabL s)))))
       have HP3 := Lib.hid (Blk.new w2 25 (pcs (rdA (tabL s)) (rdB (tabL s)) (rdS (tabL s))))
       clear hb2))
  generalize hw3 : w2.alloc (pto (rdA (tabL s)) (rdB (tabL s)) (rdS (tabL s))) = w3 at *
  have HV1 := Lib.hid (fun (c : Nat) (W : World) (h : BaseS w W s zub) => val_sec h.sec 4 8 (by omega) (by omega) (txgN s) rfl c W (Below.refl _ _))
  have HV2 := Lib.hid (fun (c : Nat) (W : World) (h : BaseS w W s zub) => val_sec h.sec 12 8 (by omega) (by omega) (stmN s) rfl c W (Below.refl _ _))
  have HV3 := Lib.hid (fun (c : Nat) (W : World) (h : BaseS w W s zub) => val_sec h.sec 36 4 (by omega) (by omega) (lenN s) rfl c W (Below.refl _ _))
  have HV4 := Lib.hid (fun (c : Nat) (W : World) (h : BaseS w W s zub) => val_sec h.sec 40 4 (by omega) (by omega) (secN s) rfl c W (Below.refl _ _))
  have HBU := Lib.hid (build_parts s)
  have hw1 : IntKind.i64.wrap (lenN s : Int) = (lenN s : Int) := by have := num4_lt (s.l.drop 36); rw [IntKind.wrap_i64]; unfold lenN; omega
  have hw2' : IntKind.i64.wrap (secN s : Int) = (secN s : Int) := by have := num4_lt (s.l.drop 40); rw [IntKind.wrap_i64]; unfold secN; omega
  have HY := Lib.hid (rubytes_any (partsU s))

  rw [bytesS_t hr, bytesC_t hr] at HY
  clear hr
  have HSM := Lib.hid hsm
  clear hsm
  generalize secU (partsU s) = xs at *
  have hS1 : Hid ((fun w' => BaseS w w' s zub ∧ Blk w' w2.heap.size 25 (pcs (rdA (tabL s)) (rdB (tabL s)) (rdS (tabL s)))) w3.drew) := ⟨HB3.out.next (Below.refl _ _).drew, HP3.out⟩
  refine wp_region_held_drew (S := (fun w' => BaseS w w' s zub ∧ Blk w' w2.heap.size 25 (pcs (rdA (tabL s)) (rdB (tabL s)) (rdS (tabL s))))) (by kernel_rfl) hS1.out (fun hHeld => ?_)
  clear hS1 HB3 HP3 HB1 HU1 HB0 HRS HT HQ
  generalize w3.drew = w4 at *
  generalize txgN s = n1 at *
  generalize stmN s = n2 at *
  generalize lenN s = n3 at *
  generalize secN s = n4 at *
  generalize rdA (tabL s) = q1 at *
  generalize rdB (tabL s) = q2 at *
  generalize rdS (tabL s) = q3 at *
  refine wpAnyH_take (i := 0) (v := (.slice (some ⟨w.heap.size, 4, none⟩) 8 124)) rfl (by kernel_rfl) (by kernel_rfl) (by kernel_rfl) (fun _ _ _ h => h) (Or.inl ⟨by rfl, ?_⟩) (by assumption) ?_
  · intro w' hS; go_simp; try with_reducible rfl
  try simp [Act.put]
  refine wpAnyH_take (i := 2) (v := (.slice (some ⟨w.heap.size, 12, none⟩) 8 116)) rfl (by kernel_rfl) (by kernel_rfl) (by kernel_rfl) (fun _ _ _ h => h) (Or.inl ⟨by rfl, ?_⟩) (by assumption) ?_
  · intro w' hS; go_simp; try with_reducible rfl
  try simp [Act.put]
  refine wpAnyH_take (i := 4) (v := (ptv q1 q2 q3)) rfl (by kernel_rfl) (by kernel_rfl) (by kernel_rfl) (fun _ _ _ h => h) (Or.inl ⟨by rfl, ?_⟩) (by assumption) ?_
  · intro w' hS
    obtain ⟨_, hP⟩ := hS
    have p0 := hP.cell 0
    have p1 := hP.cell 1
    have p2 := hP.cell 2
    clear hP
    go_simp
    try with_reducible rfl
  try simp [Act.put]
  refine wpAnyH_take (i := 5) (v := (.slice (some ⟨w.heap.size, 36, none⟩) 4 92)) rfl (by kernel_rfl) (by kernel_rfl) (by kernel_rfl) (fun _ _ _ h => h) (Or.inl ⟨by rfl, ?_⟩) (by assumption) ?_
  · intro w' hS; go_simp; try with_reducible rfl
  try simp [Act.put]
  refine wpAnyH_take (i := 8) (v := (.slice (some ⟨w.heap.size, 40, none⟩) 4 88)) rfl (by kernel_rfl) (by kernel_rfl) (by kernel_rfl) (fun _ _ _ h => h) (Or.inl ⟨by rfl, ?_⟩) (by assumption) ?_
  · intro w' hS; go_simp; try with_reducible rfl
  try simp [Act.put]
  have hH4 := Lib.hid hHeld
  refine wpAnyH_ready (rs := [1, 12]) (by kernel_rfl) (by simp) ?_
  refine AllReadyH.cons rfl (fun K hK => ?_) (AllReadyH.cons rfl (fun K hK => ?_) AllReadyH.nil)
  · skip
    go_simp
    refine Calls.mono (HV1.out _ _ hHeld.1) ?_
    rintro e wX ⟨rfl, hwX⟩
    rw [hwX]
    clear hwX wX
    refine hK.out _ _ hHeld (fun hHeld2 => ?_)
    clear hK K
    try simp
    clear hHeld2
    refine wpAnyH_ready (rs := [3, 12]) (by kernel_rfl) (by simp) ?_
    refine AllReadyH.cons rfl (fun K hK => ?_) (AllReadyH.cons rfl (fun K hK => ?_) AllReadyH.nil)
    · skip
      go_simp
      refine Calls.mono (HV2.out _ _ hHeld.1) ?_
      rintro e wX ⟨rfl, hwX⟩
      rw [hwX]
      clear hwX wX
      refine hK.out _ _ hHeld (fun hHeld2 => ?_)
      clear hK K
      try simp
      clear hHeld2
      refine wpAnyH_ready (rs := [6, 12]) (by kernel_rfl) (by simp) ?_
      refine AllReadyH.cons rfl (fun K hK => ?_) (AllReadyH.cons rfl (fun K hK => ?_) AllReadyH.nil)
      · skip
        go_simp
        refine Calls.mono (HV3.out _ _ hHeld.1) ?_
        rintro e wX ⟨rfl, hwX⟩
        rw [hwX]
        clear hwX wX
        refine hK.out _ _ hHeld (fun hHeld2 => ?_)
        clear hK K
        try simp
        clear hHeld2
        refine wpAnyH_take (i := 7) (v := (.int .i64 (n3 : Int))) rfl (by kernel_rfl) (by kernel_rfl) (by kernel_rfl) (fun _ _ _ h => h) (Or.inl ⟨by rfl, ?_⟩) (by assumption) ?_
        · intro w' hS; go_simp; try with_reducible rfl
        try simp [Act.put]
        refine wpAnyH_ready (rs := [9, 12]) (by kernel_rfl) (by simp) ?_
        refine AllReadyH.cons rfl (fun K hK => ?_) (AllReadyH.cons rfl (fun K hK => ?_) AllReadyH.nil)
        · skip
          go_simp
          refine Calls.mono (HV4.out _ _ hHeld.1) ?_
          rintro e wX ⟨rfl, hwX⟩
          rw [hwX]
          clear hwX wX
          refine hK.out _ _ hHeld (fun hHeld2 => ?_)
          clear hK K
          try simp
          clear hHeld2
          refine wpAnyH_take (i := 10) (v := (.int .i64 (n4 : Int))) rfl (by kernel_rfl) (by kernel_rfl) (by kernel_rfl) (fun _ _ _ h => h) (Or.inl ⟨by rfl, ?_⟩) (by assumption) ?_
          · intro w' hS; go_simp; try with_reducible rfl
          try simp [Act.put]
          refine wpAnyH_take (i := 11) (v := (.agg (partsU s).cs.toArray)) rfl (by kernel_rfl) (by kernel_rfl) (by kernel_rfl) (fun _ _ _ h => h) (Or.inl ⟨by rfl, ?_⟩) (by assumption) ?_
          · intro w' hS
            exact ex_build5 (.tmp 20) (.tmp 22) (.tmp 23) (.tmp 26) (.tmp 29) rfl (.int .u64 (n1 : Int)) (.int .u64 (n2 : Int)) (ptv q1 q2 q3) (.int .i64 (n3 : Int)) (.int .i64 (n4 : Int)) _ rfl rfl rfl rfl rfl (HBU.out _)
          try simp [Act.put]
          refine wpAnyH_ready (rs := [12]) (by kernel_rfl) (by simp) ?_
          refine AllReadyH.cons rfl (fun K hK => ?_) AllReadyH.nil
          go_simp
          refine hK.out _ _ ⟨hHeld.1.next ((Below.refl _ _).alloc (Nat.le_refl _) _), hHeld.2.below ((Below.refl _ _).alloc (Nat.le_refl _) (.cells zub.cs.toArray 27)) hHeld.2.lt⟩ (fun hHeld2 => ?_)
          clear hK K
          try simp
          clear hHeld
          have hHeld := hHeld2
          clear hHeld2
          refine wpAnyH_ready (rs := [13]) (by kernel_rfl) (by simp) ?_
          refine AllReadyH.cons rfl (fun K hK => ?_) AllReadyH.nil
          refine step_stU rfl (.tmp 6) (.tmp 30) rfl w4.heap.size 0 (partsU s) rfl rfl (Blk.ubHas (u := zub) (Blk.new w4 _ _)) ?_
          refine hK.out _ _ ⟨hH4.out.1.next (new_ub rfl).2, hH4.out.2.below (new_ub (x := partsU s) rfl).2 hH4.out.2.lt⟩ (fun hHeld2 => ?_)
          clear hK K hHeld
          try simp [Act.put]
          refine wpAnyH_done (by kernel_rfl) ?_ _
          have HB5 := Lib.hid hHeld2.1
          have HU5 := Lib.hid (new_ub (w := w4) (x := partsU s) rfl).1
          clear hHeld2 hH4
          generalize hw5 : (w4.alloc (.cells zub.cs.toArray 27)).setCells w4.heap.size 0 (partsU s).cs = w5 at *
          clear hw5
          go_wp2_with (first
            | (with_reducible refine st_ub rfl _ _ rfl (w.heap.size + 1) 0 zub rfl rfl HB7.out.ub.ubHas ?_; intro w8 hw8)
            | (with_reducible refine ld_ub rfl _ rfl w4.heap.size 0 (partsU s) rfl HU5.out.ubIs ?_)
            | (go_at_call 13; with_reducible refine Calls.mono (HY.out _) ?_; rintro e w6 ⟨rfl, hb6⟩; have HB6 := Lib.hid (HB5.out.next hb6); have HU6 := Lib.hid (HU5.out.below hb6 HU5.out.lt); clear hb6)
            | (with_reducible refine st_sec rfl _ _ rfl w6.heap.size 0 xs rfl rfl (Blk.secHas (s := zsec) (Blk.new w6 _ _)) ?_; intro w7 hw7
               have HB7 := Lib.hid (HB6.out.next (new_sec hw7.out).2)
               have HS7 := Lib.hid (new_sec hw7.out).1
               have HU7 := Lib.hid (HU6.out.below (new_sec hw7.out).2 HU6.out.lt))
            | (refine wpList_val (by rfl) _ (ex_ld (.tmp 7) rfl w6.heap.size 0 xs rfl HS7.out.secIs) ?_)
            | (refine wpList_val (by rfl) _ (ex_ld (.tmp 1) rfl w.heap.size 0 s rfl HB7.out.sec.secIs) ?_)
            | (refine wpList_val (by rfl) _ (ex_neS (.tmp 39) (.tmp 40) rfl xs s rfl rfl) ?_; rw [HSM.out])
            | (with_reducible refine ld_ub rfl _ rfl w4.heap.size 0 (partsU s) rfl HU7.out.ubIs ?_))
          have hb2 : Blk w8 (w.heap.size + 1) 27 (Ub.cs zub).toArray := by rw [hw8.out]; exact HB7.out.ub.ubAll _
          exact bodyPost_ret (results_row_tmp rfl _ _ _ _ _ _ _ rfl hb2 Try.underlying27 rfl (sizeUb'' zub)) rfl ⟨rfl, by rw [hw8.out]; exact Below.setCells _ (by omega) _ _ HB7.out.below⟩
        · skip
          go_simp
          refine hK.out _ _ ⟨hHeld.1.next ((Below.refl _ _).alloc (Nat.le_refl _) _), hHeld.2.below ((Below.refl _ _).alloc (Nat.le_refl _) (.cells zub.cs.toArray 27)) hHeld.2.lt⟩ (fun hHeld2 => ?_)
          clear hK K
          try simp
          clear hHeld
          have hHeld := hHeld2
          clear hHeld2
          refine wpAnyH_ready (rs := [9]) (by kernel_rfl) (by simp) ?_
          refine AllReadyH.cons rfl (fun K hK => ?_) AllReadyH.nil
          go_simp
          refine Calls.mono (HV4.out _ _ hHeld.1) ?_
          rintro e wX ⟨rfl, hwX⟩
          rw [hwX]
          clear hwX wX
          refine hK.out _ _ hHeld (fun hHeld2 => ?_)
          clear hK K
          try simp
          clear hHeld2
          refine wpAnyH_take (i := 10) (v := (.int .i64 (n4 : Int))) rfl (by kernel_rfl) (by kernel_rfl) (by kernel_rfl) (fun _ _ _ h => h) (Or.inl ⟨by rfl, ?_⟩) (by assumption) ?_
          · intro w' hS; go_simp; try with_reducible rfl
          try simp [Act.put]
          refine wpAnyH_take (i := 11) (v := (.agg (partsU s).cs.toArray)) rfl (by kernel_rfl) (by kernel_rfl) (by kernel_rfl) (fun _ _ _ h => h) (Or.inl ⟨by rfl, ?_⟩) (by assumption) ?_
          · intro w' hS
            exact ex_build5 (.tmp 20) (.tmp 22) (.tmp 23) (.tmp 26) (.tmp 29) rfl (.int .u64 (n1 : Int)) (.int .u64 (n2 : Int)) (ptv q1 q2 q3) (.int .i64 (n3 : Int)) (.int .i64 (n4 : Int)) _ rfl rfl rfl rfl rfl (HBU.out _)
          try simp [Act.put]
          refine wpAnyH_ready (rs := [13]) (by kernel_rfl) (by simp) ?_
          refine AllReadyH.cons rfl (fun K hK => ?_) AllReadyH.nil
          refine step_stU rfl (.tmp 6) (.tmp 30) rfl w4.heap.size 0 (partsU s) rfl rfl (Blk.ubHas (u := zub) (Blk.new w4 _ _)) ?_
          refine hK.out _ _ ⟨hH4.out.1.next (new_ub rfl).2, hH4.out.2.below (new_ub (x := partsU s) rfl).2 hH4.out.2.lt⟩ (fun hHeld2 => ?_)
          clear hK K hHeld
          try simp [Act.put]
          refine wpAnyH_done (by kernel_rfl) ?_ _
          have HB5 := Lib.hid hHeld2.1
          have HU5 := Lib.hid (new_ub (w := w4) (x := partsU s) rfl).1
          clear hHeld2 hH4
          generalize hw5 : (w4.alloc (.cells zub.cs.toArray 27)).setCells w4.heap.size 0 (partsU s).cs = w5 at *
          clear hw5
          go_wp2_with (first
            | (with_reducible refine st_ub rfl _ _ rfl (w.heap.size + 1) 0 zub rfl rfl HB7.out.ub.ubHas ?_; intro w8 hw8)
            | (with_reducible refine ld_ub rfl _ rfl w4.heap.size 0 (partsU s) rfl HU5.out.ubIs ?_)
            | (go_at_call 13; with_reducible refine Calls.mono (HY.out _) ?_; rintro e w6 ⟨rfl, hb6⟩; have HB6 := Lib.hid (HB5.out.next hb6); have HU6 := Lib.hid (HU5.out.below hb6 HU5.out.lt); clear hb6)
            | (with_reducible refine st_sec rfl _ _ rfl w6.heap.size 0 xs rfl rfl (Blk.secHas (s := zsec) (Blk.new w6 _ _)) ?_; intro w7 hw7
               have HB7 := Lib.hid (HB6.out.next (new_sec hw7.out).2)
               have HS7 := Lib.hid (new_sec hw7.out).1
               have HU7 := Lib.hid (HU6.out.below (new_sec hw7.out).2 HU6.out.lt))
            | (refine wpList_val (by rfl) _ (ex_ld (.tmp 7) rfl w6.heap.size 0 xs rfl HS7.out.secIs) ?_)
            | (refine wpList_val (by rfl) _ (ex_ld (.tmp 1) rfl w.heap.size 0 s rfl HB7.out.sec.secIs) ?_)
            | (refine wpList_val (by rfl) _ (ex_neS (.tmp 39) (.tmp 40) rfl xs s rfl rfl) ?_; rw [HSM.out])
            | (with_reducible refine ld_ub rfl _ rfl w4.heap.size 0 (partsU s) rfl HU7.out.ubIs ?_))
          have hb2 : Blk w8 (w.heap.size + 1) 27 (Ub.cs zub).toArray := by rw [hw8.out]; exact HB7.out.ub.ubAll _
          exact bodyPost_ret (results_row_tmp rfl _ _ _ _ _ _ _ rfl hb2 Try.underlying27 rfl (sizeUb'' zub)) rfl ⟨rfl, by rw [hw8.out]; exact Below.setCells _ (by omega) _ _ HB7.out.below⟩
      · skip
        go_simp
        refine hK.out _ _ ⟨hHeld.1.next ((Below.refl _ _).alloc (Nat.le_refl _) _), hHeld.2.below ((Below.refl _ _).alloc (Nat.le_refl _) (.cells zub.cs.toArray 27)) hHeld.2.lt⟩ (fun hHeld2 => ?_)
        clear hK K
        try simp
        clear hHeld
        have hHeld := hHeld2
        clear hHeld2
        refine wpAnyH_ready (rs := [6]) (by kernel_rfl) (by simp) ?_
        refine AllReadyH.cons rfl (fun K hK => ?_) AllReadyH.nil
        go_simp
        refine Calls.mono (HV3.out _ _ hHeld.1) ?_
        rintro e wX ⟨rfl, hwX⟩
        rw [hwX]
        clear hwX wX
        refine hK.out _ _ hHeld (fun hHeld2 => ?_)
        clear hK K
        try simp
        clear hHeld2
        refine wpAnyH_take (i := 7) (v := (.int .i64 (n3 : Int))) rfl (by kernel_rfl) (by kernel_rfl) (by kernel_rfl) (fun _ _ _ h => h) (Or.inl ⟨by rfl, ?_⟩) (by assumption) ?_
        · intro w' hS; go_simp; try with_reducible rfl
        try simp [Act.put]
        refine wpAnyH_ready (rs := [9]) (by kernel_rfl) (by simp) ?_
        refine AllReadyH.cons rfl (fun K hK => ?_) AllReadyH.nil
        go_simp
        refine Calls.mono (HV4.out _ _ hHeld.1) ?_
        rintro e wX ⟨rfl, hwX⟩
        rw [hwX]
        clear hwX wX
        refine hK.out _ _ hHeld (fun hHeld2 => ?_)
        clear hK K
        try simp
        clear hHeld2
        refine wpAnyH_take (i := 10) (v := (.int .i64 (n4 : Int))) rfl (by kernel_rfl) (by kernel_rfl) (by kernel_rfl) (fun _ _ _ h => h) (Or.inl ⟨by rfl, ?_⟩) (by assumption) ?_
        · intro w' hS; go_simp; try with_reducible rfl
        try simp [Act.put]
        refine wpAnyH_take (i := 11) (v := (.agg (partsU s).cs.toArray)) rfl (by kernel_rfl) (by kernel_rfl) (by kernel_rfl) (fun _ _ _ h => h) (Or.inl ⟨by rfl, ?_⟩) (by assumption) ?_
        · intro w' hS
          exact ex_build5 (.tmp 20) (.tmp 22) (.tmp 23) (.tmp 26) (.tmp 29) rfl (.int .u64 (n1 : Int)) (.int .u64 (n2 : Int)) (ptv q1 q2 q3) (.int .i64 (n3 : Int)) (.int .i64 (n4 : Int)) _ rfl rfl rfl rfl rfl (HBU.out _)
        try simp [Act.put]
        refine wpAnyH_ready (rs := [13]) (by kernel_rfl) (by simp) ?_
        refine AllReadyH.cons rfl (fun K hK => ?_) AllReadyH.nil
        refine step_stU rfl (.tmp 6) (.tmp 30) rfl w4.heap.size 0 (partsU s) rfl rfl (Blk.ubHas (u := zub) (Blk.new w4 _ _)) ?_
        refine hK.out _ _ ⟨hH4.out.1.next (new_ub rfl).2, hH4.out.2.below (new_ub (x := partsU s) rfl).2 hH4.out.2.lt⟩ (fun hHeld2 => ?_)
        clear hK K hHeld
        try simp [Act.put]
        refine wpAnyH_done (by kernel_rfl) ?_ _
        have HB5 := Lib.hid hHeld2.1
        have HU5 := Lib.hid (new_ub (w := w4) (x := partsU s) rfl).1
        clear hHeld2 hH4
        generalize hw5 : (w4.alloc (.cells zub.cs.toArray 27)).setCells w4.heap.size 0 (partsU s).cs = w5 at *
        clear hw5
        go_wp2_with (first
          | (with_reducible refine st_ub rfl _ _ rfl (w.heap.size + 1) 0 zub rfl rfl HB7.out.ub.ubHas ?_; intro w8 hw8)
          | (with_reducible refine ld_ub rfl _ rfl w4.heap.size 0 (partsU s) rfl HU5.out.ubIs ?_)
          | (go_at_call 13; with_reducible refine Calls.mono (HY.out _) ?_; rintro e w6 ⟨rfl, hb6⟩; have HB6 := Lib.hid (HB5.out.next hb6); have HU6 := Lib.hid (HU5.out.below hb6 HU5.out.lt); clear hb6)
          | (with_reducible refine st_sec rfl _ _ rfl w6.heap.size 0 xs rfl rfl (Blk.secHas (s := zsec) (Blk.new w6 _ _)) ?_; intro w7 hw7
             have HB7 := Lib.hid (HB6.out.next (new_sec hw7.out).2)
             have HS7 := Lib.hid (new_sec hw7.out).1
             have HU7 := Lib.hid (HU6.out.below (new_sec hw7.out).2 HU6.out.lt))
          | (refine wpList_val (by rfl) _ (ex_ld (.tmp 7) rfl w6.heap.size 0 xs rfl HS7.out.secIs) ?_)
          | (refine wpList_val (by rfl) _ (ex_ld (.tmp 1) rfl w.heap.size 0 s rfl HB7.out.sec.secIs) ?_)
          | (refine wpList_val (by rfl) _ (ex_neS (.tmp 39) (.tmp 40) rfl xs s rfl rfl) ?_; rw [HSM.out])
          | (with_reducible refine ld_ub rfl _ rfl w4.heap.size 0 (partsU s) rfl HU7.out.ubIs ?_))
        have hb2 : Blk w8 (w.heap.size + 1) 27 (Ub.cs zub).toArray := by rw [hw8.out]; exact HB7.out.ub.ubAll _
        exact bodyPost_ret (results_row_tmp rfl _ _ _ _ _ _ _ rfl hb2 Try.underlying27 rfl (sizeUb'' zub)) rfl ⟨rfl, by rw [hw8.out]; exact Below.setCells _ (by omega) _ _ HB7.out.below⟩
    · skip
      go_simp
      refine hK.out _ _ ⟨hHeld.1.next ((Below.refl _ _).alloc (Nat.le_refl _) _), hHeld.2.below ((Below.refl _ _).alloc (Nat.le_refl _) (.cells zub.cs.toArray 27)) hHeld.2.lt⟩ (fun hHeld2 => ?_)
      clear hK K
      try simp
      clear hHeld
      have hHeld := hHeld2
      clear hHeld2
      refine wpAnyH_ready (rs := [3]) (by kernel_rfl) (by simp) ?_
      refine AllReadyH.cons rfl (fun K hK => ?_) AllReadyH.nil
      go_simp
      refine Calls.mono (HV2.out _ _ hHeld.1) ?_
      rintro e wX ⟨rfl, hwX⟩
      rw [hwX]
      clear hwX wX
      refine hK.out _ _ hHeld (fun hHeld2 => ?_)
      clear hK K
      try simp
      clear hHeld2
      refine wpAnyH_ready (rs := [6]) (by kernel_rfl) (by simp) ?_
      refine AllReadyH.cons rfl (fun K hK => ?_) AllReadyH.nil
      go_simp
      refine Calls.mono (HV3.out _ _ hHeld.1) ?_
      rintro e wX ⟨rfl, hwX⟩
      rw [hwX]
      clear hwX wX
      refine hK.out _ _ hHeld (fun hHeld2 => ?_)
      clear hK K
      try simp
      clear hHeld2
      refine wpAnyH_take (i := 7) (v := (.int .i64 (n3 : Int))) rfl (by kernel_rfl) (by kernel_rfl) (by kernel_rfl) (fun _ _ _ h => h) (Or.inl ⟨by rfl, ?_⟩) (by assumption) ?_
      · intro w' hS; go_simp; try with_reducible rfl
      try simp [Act.put]
      refine wpAnyH_ready (rs := [9]) (by kernel_rfl) (by simp) ?_
      refine AllReadyH.cons rfl (fun K hK => ?_) AllReadyH.nil
      go_simp
      refine Calls.mono (HV4.out _ _ hHeld.1) ?_
      rintro e wX ⟨rfl, hwX⟩
      rw [hwX]
      clear hwX wX
      refine hK.out _ _ hHeld (fun hHeld2 => ?_)
      clear hK K
      try simp
      clear hHeld2
      refine wpAnyH_take (i := 10) (v := (.int .i64 (n4 : Int))) rfl (by kernel_rfl) (by kernel_rfl) (by kernel_rfl) (fun _ _ _ h => h) (Or.inl ⟨by rfl, ?_⟩) (by assumption) ?_
      · intro w' hS; go_simp; try with_reducible rfl
      try simp [Act.put]
      refine wpAnyH_take (i := 11) (v := (.agg (partsU s).cs.toArray)) rfl (by kernel_rfl) (by kernel_rfl) (by kernel_rfl) (fun _ _ _ h => h) (Or.inl ⟨by rfl, ?_⟩) (by assumption) ?_
      · intro w' hS
        exact ex_build5 (.tmp 20) (.tmp 22) (.tmp 23) (.tmp 26) (.tmp 29) rfl (.int .u64 (n1 : Int)) (.int .u64 (n2 : Int)) (ptv q1 q2 q3) (.int .i64 (n3 : Int)) (.int .i64 (n4 : Int)) _ rfl rfl rfl rfl rfl (HBU.out _)
      try simp [Act.put]
      refine wpAnyH_ready (rs := [13]) (by kernel_rfl) (by simp) ?_
      refine AllReadyH.cons rfl (fun K hK => ?_) AllReadyH.nil
      refine step_stU rfl (.tmp 6) (.tmp 30) rfl w4.heap.size 0 (partsU s) rfl rfl (Blk.ubHas (u := zub) (Blk.new w4 _ _)) ?_
      refine hK.out _ _ ⟨hH4.out.1.next (new_ub rfl).2, hH4.out.2.below (new_ub (x := partsU s) rfl).2 hH4.out.2.lt⟩ (fun hHeld2 => ?_)
      clear hK K hHeld
      try simp [Act.put]
      refine wpAnyH_done (by kernel_rfl) ?_ _
      have HB5 := Lib.hid hHeld2.1
      have HU5 := Lib.hid (new_ub (w := w4) (x := partsU s) rfl).1
      clear hHeld2 hH4
      generalize hw5 : (w4.alloc (.cells zub.cs.toArray 27)).setCells w4.heap.size 0 (partsU s).cs = w5 at *
      clear hw5
      go_wp2_with (first
        | (with_reducible refine st_ub rfl _ _ rfl (w.heap.size + 1) 0 zub rfl rfl HB7.out.ub.ubHas ?_; intro w8 hw8)
        | (with_reducible refine ld_ub rfl _ rfl w4.heap.size 0 (partsU s) rfl HU5.out.ubIs ?_)
        | (go_at_call 13; with_reducible refine Calls.mono (HY.out _) ?_; rintro e w6 ⟨rfl, hb6⟩; have HB6 := Lib.hid (HB5.out.next hb6); have HU6 := Lib.hid (HU5.out.below hb6 HU5.out.lt); clear hb6)
        | (with_reducible refine st_sec rfl _ _ rfl w6.heap.size 0 xs rfl rfl (Blk.secHas (s := zsec) (Blk.new w6 _ _)) ?_; intro w7 hw7
           have HB7 := Lib.hid (HB6.out.next (new_sec hw7.out).2)
           have HS7 := Lib.hid (new_sec hw7.out).1
           have HU7 := Lib.hid (HU6.out.below (new_sec hw7.out).2 HU6.out.lt))
        | (refine wpList_val (by rfl) _ (ex_ld (.tmp 7) rfl w6.heap.size 0 xs rfl HS7.out.secIs) ?_)
        | (refine wpList_val (by rfl) _ (ex_ld (.tmp 1) rfl w.heap.size 0 s rfl HB7.out.sec.secIs) ?_)
        | (refine wpList_val (by rfl) _ (ex_neS (.tmp 39) (.tmp 40) rfl xs s rfl rfl) ?_; rw [HSM.out])
        | (with_reducible refine ld_ub rfl _ rfl w4.heap.size 0 (partsU s) rfl HU7.out.ubIs ?_))
      have hb2 : Blk w8 (w.heap.size + 1) 27 (Ub.cs zub).toArray := by rw [hw8.out]; exact HB7.out.ub.ubAll _
      exact bodyPost_ret (results_row_tmp rfl _ _ _ _ _ _ _ rfl hb2 Try.underlying27 rfl (sizeUb'' zub)) rfl ⟨rfl, by rw [hw8.out]; exact Below.setCells _ (by omega) _ _ HB7.out.below⟩
  · skip
    go_simp
    refine hK.out _ _ ⟨hHeld.1.next ((Below.refl _ _).alloc (Nat.le_refl _) _), hHeld.2.below ((Below.refl _ _).alloc (Nat.le_refl _) (.cells zub.cs.toArray 27)) hHeld.2.lt⟩ (fun hHeld2 => ?_)
    clear hK K
    try simp
    clear hHeld
    have hHeld := hHeld2
    clear hHeld2
    refine wpAnyH_ready (rs := [1]) (by kernel_rfl) (by simp) ?_
    refine AllReadyH.cons rfl (fun K hK => ?_) AllReadyH.nil
    go_simp
    refine Calls.mono (HV1.out _ _ hHeld.1) ?_
    rintro e wX ⟨rfl, hwX⟩
    rw [hwX]
    clear hwX wX
    refine hK.out _ _ hHeld (fun hHeld2 => ?_)
    clear hK K
    try simp
    clear hHeld2
    refine wpAnyH_ready (rs := [3]) (by kernel_rfl) (by simp) ?_
    refine AllReadyH.cons rfl (fun K hK => ?_) AllReadyH.nil
    go_simp
    refine Calls.mono (HV2.out _ _ hHeld.1) ?_
    rintro e wX ⟨rfl, hwX⟩
    rw [hwX]
    clear hwX wX
    refine hK.out _ _ hHeld (fun hHeld2 => ?_)
    clear hK K
    try simp
    clear hHeld2
    refine wpAnyH_ready (rs := [6]) (by kernel_rfl) (by simp) ?_
    refine AllReadyH.cons rfl (fun K hK => ?_) AllReadyH.nil
    go_simp
    refine Calls.mono (HV3.out _ _ hHeld.1) ?_
    rintro e wX ⟨rfl, hwX⟩
    rw [hwX]
    clear hwX wX
    refine hK.out _ _ hHeld (fun hHeld2 => ?_)
    clear hK K
    try simp
    clear hHeld2
    refine wpAnyH_take (i := 7) (v := (.int .i64 (n3 : Int))) rfl (by kernel_rfl) (by kernel_rfl) (by kernel_rfl) (fun _ _ _ h => h) (Or.inl ⟨by rfl, ?_⟩) (by assumption) ?_
    · intro w' hS; go_simp; try with_reducible rfl
    try simp [Act.put]
    refine wpAnyH_ready (rs := [9]) (by kernel_rfl) (by simp) ?_
    refine AllReadyH.cons rfl (fun K hK => ?_) AllReadyH.nil
    go_simp
    refine Calls.mono (HV4.out _ _ hHeld.1) ?_
    rintro e wX ⟨rfl, hwX⟩
    rw [hwX]
    clear hwX wX
    refine hK.out _ _ hHeld (fun hHeld2 => ?_)
    clear hK K
    try simp
    clear hHeld2
    refine wpAnyH_take (i := 10) (v := (.int .i64 (n4 : Int))) rfl (by kernel_rfl) (by kernel_rfl) (by kernel_rfl) (fun _ _ _ h => h) (Or.inl ⟨by rfl, ?_⟩) (by assumption) ?_
    · intro w' hS; go_simp; try with_reducible rfl
    try simp [Act.put]
    refine wpAnyH_take (i := 11) (v := (.agg (partsU s).cs.toArray)) rfl (by kernel_rfl) (by kernel_rfl) (by kernel_rfl) (fun _ _ _ h => h) (Or.inl ⟨by rfl, ?_⟩) (by assumption) ?_
    · intro w' hS
      exact ex_build5 (.tmp 20) (.tmp 22) (.tmp 23) (.tmp 26) (.tmp 29) rfl (.int .u64 (n1 : Int)) (.int .u64 (n2 : Int)) (ptv q1 q2 q3) (.int .i64 (n3 : Int)) (.int .i64 (n4 : Int)) _ rfl rfl rfl rfl rfl (HBU.out _)
    try simp [Act.put]
    refine wpAnyH_ready (rs := [13]) (by kernel_rfl) (by simp) ?_
    refine AllReadyH.cons rfl (fun K hK => ?_) AllReadyH.nil
    refine step_stU rfl (.tmp 6) (.tmp 30) rfl w4.heap.size 0 (partsU s) rfl rfl (Blk.ubHas (u := zub) (Blk.new w4 _ _)) ?_
    refine hK.out _ _ ⟨hH4.out.1.next (new_ub rfl).2, hH4.out.2.below (new_ub (x := partsU s) rfl).2 hH4.out.2.lt⟩ (fun hHeld2 => ?_)
    clear hK K hHeld
    try simp [Act.put]
    refine wpAnyH_done (by kernel_rfl) ?_ _
    have HB5 := Lib.hid hHeld2.1
    have HU5 := Lib.hid (new_ub (w := w4) (x := partsU s) rfl).1
    clear hHeld2 hH4
    generalize hw5 : (w4.alloc (.cells zub.cs.toArray 27)).setCells w4.heap.size 0 (partsU s).cs = w5 at *
    clear hw5
    go_wp2_with (first
      | (with_reducible refine st_ub rfl _ _ rfl (w.heap.size + 1) 0 zub rfl rfl HB7.out.ub.ubHas ?_; intro w8 hw8)
      | (with_reducible refine ld_ub rfl _ rfl w4.heap.size 0 (partsU s) rfl HU5.out.ubIs ?_)
      | (go_at_call 13; with_reducible refine Calls.mono (HY.out _) ?_; rintro e w6 ⟨rfl, hb6⟩; have HB6 := Lib.hid (HB5.out.next hb6); have HU6 := Lib.hid (HU5.out.below hb6 HU5.out.lt); clear hb6)
      | (with_reducible refine st_sec rfl _ _ rfl w6.heap.size 0 xs rfl rfl (Blk.secHas (s := zsec) (Blk.new w6 _ _)) ?_; intro w7 hw7
         have HB7 := Lib.hid (HB6.out.next (new_sec hw7.out).2)
         have HS7 := Lib.hid (new_sec hw7.out).1
         have HU7 := Lib.hid (HU6.out.below (new_sec hw7.out).2 HU6.out.lt))
      | (refine wpList_val (by rfl) _ (ex_ld (.tmp 7) rfl w6.heap.size 0 xs rfl HS7.out.secIs) ?_)
      | (refine wpList_val (by rfl) _ (ex_ld (.tmp 1) rfl w.heap.size 0 s rfl HB7.out.sec.secIs) ?_)
      | (refine wpList_val (by rfl) _ (ex_neS (.tmp 39) (.tmp 40) rfl xs s rfl rfl) ?_; rw [HSM.out])
      | (with_reducible refine ld_ub rfl _ rfl w4.heap.size 0 (partsU s) rfl HU7.out.ubIs ?_))
    have hb2 : Blk w8 (w.heap.size + 1) 27 (Ub.cs zub).toArray := by rw [hw8.out]; exact HB7.out.ub.ubAll _
    exact bodyPost_ret (results_row_tmp rfl _ _ _ _ _ _ _ rfl hb2 Try.underlying27 rfl (sizeUb'' zub)) rfl ⟨rfl, by rw [hw8.out]; exact Below.setCells _ (by omega) _ _ HB7.out.below⟩
set_option maxHeartbeats 4000000 in
theorem rread6_yes (h : okF (tabL s) = true) (hr : rightU (partsU s) = true) (hsm : (secU (partsU s)).same s = true) : Calls Try.prog 15 #[.agg s.cs.toArray] w fun e w' => e = .returned (.tuple #[.agg (partsU s).cs.toArray, .bool true]) ∧ Below w.heap.size w w' := by
  have hz : ∀ w, Sem.run Try.prog (zeroValue 27) w = .ok (.agg zub.cs.toArray) w := zeroUb
  have hzs : ∀ w, Sem.run Try.prog (zeroValue 34) w = .ok (.agg zsec.cs.toArray) w := zeroSec
  have hbz : ∀ w, (Instr.build 27 #[]).run Try.prog w = .ok (.agg zub.cs.toArray) w := buildZU
  have hc : rdC (tabL s) = 0 := (rd_yes h).2.2.2
  have HQ := Lib.hid (tab_read s)
  rw [hc] at HQ
  have HB0 := Lib.hid (baseS_new w s)
  clear h hc
  generalize hw0 : (w.alloc (.cells s.cs.toArray 34)).alloc (.cells zub.cs.toArray 27) = w0 at *
  have HRS : Hid (Rd (w0.alloc (.cells #[] 5)) w0.heap.size (some ⟨w.heap.size, 20, none⟩) (bys (tabL s))) := (Sec.rd HB0.out.sec 20 16).below ((Below.refl w0.heap.size w0).alloc (Nat.le_refl _) (.cells #[] 5))
  have HT := Lib.hid (tab_len s)
  go_enter Try.func15, Try.ntmps15
  go_wp2_with (first
    | (at_builtin; go_loud (refine app_copy rfl 10 11 rfl rfl _ (some ⟨w.heap.size, 20, none⟩) 16 16 108 (tabL s) rfl HT.out rfl HRS.out (by omega) ?_); intro A1 c1 w1 hA1 hb1
       have HB1 := Lib.hid (HB0.out.next hb1)
       have HU1 := Lib.hid (own_use hA1)
       clear hA1 hb1)
    | (go_at_call 43; with_reducible refine Calls.mono (HQ.out A1 c1 _ HU1.out.2 HU1.out.1) ?_; rintro e w2 ⟨rfl, hb2⟩
       have HB3 := Lib.hid (HB1.out.next (hb2.alloc hb2.size (pto (rdA (tabL s)) (rdB (tabL s)) (rdS (tabL s)))))
       have HP3 := Lib.hid (Blk.new w2 25 (pcs (rdA (tabL s)) (rdB (tabL s)) (rdS (tabL s))))
       clear hb2))
  generalize hw3 : w2.alloc (pto (rdA (tabL s)) (rdB (tabL s)) (rdS (tabL s))) = w3 at *
  have HV1 := Lib.hid (fun (c : Nat) (W : World) (h : BaseS w W s zub) => val_sec h.sec 4 8 (by omega) (by omega) (txgN s) rfl c W (Below.refl _ _))
  have HV2 := Lib.hid (fun (c : Nat) (W : World) (h : BaseS w W s zub) => val_sec h.sec 12 8 (by omega) (by omega) (stmN s) rfl c W (Below.refl _ _))
  have HV3 := Lib.hid (fun (c : Nat) (W : World) (h : BaseS w W s zub) => val_sec h.sec 36 4 (by omega) (by omega) (lenN s) rfl c W (Below.refl _ _))
  have HV4 := Lib.hid (fun (c : Nat) (W : World) (h : BaseS w W s zub) => val_sec h.sec 40 4 (by omega) (by omega) (secN s) rfl c W (Below.refl _ _))
  have HBU := Lib.hid (build_parts s)
  have hw1 : IntKind.i64.wrap (lenN s : Int) = (lenN s : Int) := by have := num4_lt (s.l.drop 36); rw [IntKind.wrap_i64]; unfold lenN; omega
  have hw2' : IntKind.i64.wrap (secN s : Int) = (secN s : Int) := by have := num4_lt (s.l.drop 40); rw [IntKind.wrap_i64]; unfold secN; omega
  have HY := Lib.hid (rubytes_any (partsU s))

  rw [bytesS_t hr, bytesC_t hr] at HY
  clear hr
  have HSM := Lib.hid hsm
  clear hsm
  generalize secU (partsU s) = xs at *
  have hS1 : Hid ((fun w' => BaseS w w' s zub ∧ Blk w' w2.heap.size 25 (pcs (rdA (tabL s)) (rdB (tabL s)) (rdS (tabL s)))) w3.drew) := ⟨HB3.out.next (Below.refl _ _).drew, HP3.out⟩
  refine wp_region_held_drew (S := (fun w' => BaseS w w' s zub ∧ Blk w' w2.heap.size 25 (pcs (rdA (tabL s)) (rdB (tabL s)) (rdS (tabL s))))) (by kernel_rfl) hS1.out (fun hHeld => ?_)
  clear hS1 HB3 HP3 HB1 HU1 HB0 HRS HT HQ
  generalize w3.drew = w4 at *
  generalize txgN s = n1 at *
  generalize stmN s = n2 at *
  generalize lenN s = n3 at *
  generalize secN s = n4 at *
  generalize rdA (tabL s) = q1 at *
  generalize rdB (tabL s) = q2 at *
  generalize rdS (tabL s) = q3 at *
  refine wpAnyH_take (i := 0) (v := (.slice (some ⟨w.heap.size, 4, none⟩) 8 124)) rfl (by kernel_rfl) (by kernel_rfl) (by kernel_rfl) (fun _ _ _ h => h) (Or.inl ⟨by rfl, ?_⟩) (by assumption) ?_
  · intro w' hS; go_simp; try with_reducible rfl
  try simp [Act.put]
  refine wpAnyH_take (i := 2) (v := (.slice (some ⟨w.heap.size, 12, none⟩) 8 116)) rfl (by kernel_rfl) (by kernel_rfl) (by kernel_rfl) (fun _ _ _ h => h) (Or.inl ⟨by rfl, ?_⟩) (by assumption) ?_
  · intro w' hS; go_simp; try with_reducible rfl
  try simp [Act.put]
  refine wpAnyH_take (i := 4) (v := (ptv q1 q2 q3)) rfl (by kernel_rfl) (by kernel_rfl) (by kernel_rfl) (fun _ _ _ h => h) (Or.inl ⟨by rfl, ?_⟩) (by assumption) ?_
  · intro w' hS
    obtain ⟨_, hP⟩ := hS
    have p0 := hP.cell 0
    have p1 := hP.cell 1
    have p2 := hP.cell 2
    clear hP
    go_simp
    try with_reducible rfl
  try simp [Act.put]
  refine wpAnyH_take (i := 5) (v := (.slice (some ⟨w.heap.size, 36, none⟩) 4 92)) rfl (by kernel_rfl) (by kernel_rfl) (by kernel_rfl) (fun _ _ _ h => h) (Or.inl ⟨by rfl, ?_⟩) (by assumption) ?_
  · intro w' hS; go_simp; try with_reducible rfl
  try simp [Act.put]
  refine wpAnyH_take (i := 8) (v := (.slice (some ⟨w.heap.size, 40, none⟩) 4 88)) rfl (by kernel_rfl) (by kernel_rfl) (by kernel_rfl) (fun _ _ _ h => h) (Or.inl ⟨by rfl, ?_⟩) (by assumption) ?_
  · intro w' hS; go_simp; try with_reducible rfl
  try simp [Act.put]
  have hH4 := Lib.hid hHeld
  refine wpAnyH_ready (rs := [1, 12]) (by kernel_rfl) (by simp) ?_
  refine AllReadyH.cons rfl (fun K hK => ?_) (AllReadyH.cons rfl (fun K hK => ?_) AllReadyH.nil)
  · skip
    go_simp
    refine Calls.mono (HV1.out _ _ hHeld.1) ?_
    rintro e wX ⟨rfl, hwX⟩
    rw [hwX]
    clear hwX wX
    refine hK.out _ _ hHeld (fun hHeld2 => ?_)
    clear hK K
    try simp
    clear hHeld2
    refine wpAnyH_ready (rs := [3, 12]) (by kernel_rfl) (by simp) ?_
    refine AllReadyH.cons rfl (fun K hK => ?_) (AllReadyH.cons rfl (fun K hK => ?_) AllReadyH.nil)
    · skip
      go_simp
      refine Calls.mono (HV2.out _ _ hHeld.1) ?_
      rintro e wX ⟨rfl, hwX⟩
      rw [hwX]
      clear hwX wX
      refine hK.out _ _ hHeld (fun hHeld2 => ?_)
      clear hK K
      try simp
      clear hHeld2
      refine wpAnyH_ready (rs := [6, 12]) (by kernel_rfl) (by simp) ?_
      refine AllReadyH.cons rfl (fun K hK => ?_) (AllReadyH.cons rfl (fun K hK => ?_) AllReadyH.nil)
      · skip
        go_simp
        refine Calls.mono (HV3.out _ _ hHeld.1) ?_
        rintro e wX ⟨rfl, hwX⟩
        rw [hwX]
        clear hwX wX
        refine hK.out _ _ hHeld (fun hHeld2 => ?_)
        clear hK K
        try simp
        clear hHeld2
        refine wpAnyH_take (i := 7) (v := (.int .i64 (n3 : Int))) rfl (by kernel_rfl) (by kernel_rfl) (by kernel_rfl) (fun _ _ _ h => h) (Or.inl ⟨by rfl, ?_⟩) (by assumption) ?_
        · intro w' hS; go_simp; try with_reducible rfl
        try simp [Act.put]
        refine wpAnyH_ready (rs := [9, 12]) (by kernel_rfl) (by simp) ?_
        refine AllReadyH.cons rfl (fun K hK => ?_) (AllReadyH.cons rfl (fun K hK => ?_) AllReadyH.nil)
        · skip
          go_simp
          refine Calls.mono (HV4.out _ _ hHeld.1) ?_
          rintro e wX ⟨rfl, hwX⟩
          rw [hwX]
          clear hwX wX
          refine hK.out _ _ hHeld (fun hHeld2 => ?_)
          clear hK K
          try simp
          clear hHeld2
          refine wpAnyH_take (i := 10) (v := (.int .i64 (n4 : Int))) rfl (by kernel_rfl) (by kernel_rfl) (by kernel_rfl) (fun _ _ _ h => h) (Or.inl ⟨by rfl, ?_⟩) (by assumption) ?_
          · intro w' hS; go_simp; try with_reducible rfl
          try simp [Act.put]
          refine wpAnyH_take (i := 11) (v := (.agg (partsU s).cs.toArray)) rfl (by kernel_rfl) (by kernel_rfl) (by kernel_rfl) (fun _ _ _ h => h) (Or.inl ⟨by rfl, ?_⟩) (by assumption) ?_
          · intro w' hS
            exact ex_build5 (.tmp 20) (.tmp 22) (.tmp 23) (.tmp 26) (.tmp 29) rfl (.int .u64 (n1 : Int)) (.int .u64 (n2 : Int)) (ptv q1 q2 q3) (.int .i64 (n3 : Int)) (.int .i64 (n4 : Int)) _ rfl rfl rfl rfl rfl (HBU.out _)
          try simp [Act.put]
          refine wpAnyH_ready (rs := [12]) (by kernel_rfl) (by simp) ?_
          refine AllReadyH.cons rfl (fun K hK => ?_) AllReadyH.nil
          go_simp
          refine hK.out _ _ ⟨hHeld.1.next ((Below.refl _ _).alloc (Nat.le_refl _) _), hHeld.2.below ((Below.refl _ _).alloc (Nat.le_refl _) (.cells zub.cs.toArray 27)) hHeld.2.lt⟩ (fun hHeld2 => ?_)
          clear hK K
          try simp
          clear hHeld
          have hHeld := hHeld2
          clear hHeld2
          refine wpAnyH_ready (rs := [13]) (by kernel_rfl) (by simp) ?_
          refine AllReadyH.cons rfl (fun K hK => ?_) AllReadyH.nil
          refine step_stU rfl (.tmp 6) (.tmp 30) rfl w4.heap.size 0 (partsU s) rfl rfl (Blk.ubHas (u := zub) (Blk.new w4 _ _)) ?_
          refine hK.out _ _ ⟨hH4.out.1.next (new_ub rfl).2, hH4.out.2.below (new_ub (x := partsU s) rfl).2 hH4.out.2.lt⟩ (fun hHeld2 => ?_)
          clear hK K hHeld
          try simp [Act.put]
          refine wpAnyH_done (by kernel_rfl) ?_ _
          have HB5 := Lib.hid hHeld2.1
          have HU5 := Lib.hid (new_ub (w := w4) (x := partsU s) rfl).1
          clear hHeld2 hH4
          generalize hw5 : (w4.alloc (.cells zub.cs.toArray 27)).setCells w4.heap.size 0 (partsU s).cs = w5 at *
          clear hw5
          go_wp2_with (first
            | (with_reducible refine st_ub rfl _ _ rfl (w.heap.size + 1) 0 (partsU s) rfl rfl HB7.out.ub.ubHas ?_; intro w8 hw8)
            | (with_reducible refine ld_ub rfl _ rfl w4.heap.size 0 (partsU s) rfl HU5.out.ubIs ?_)
            | (go_at_call 13; with_reducible refine Calls.mono (HY.out _) ?_; rintro e w6 ⟨rfl, hb6⟩; have HB6 := Lib.hid (HB5.out.next hb6); have HU6 := Lib.hid (HU5.out.below hb6 HU5.out.lt); clear hb6)
            | (with_reducible refine st_sec rfl _ _ rfl w6.heap.size 0 xs rfl rfl (Blk.secHas (s := zsec) (Blk.new w6 _ _)) ?_; intro w7 hw7
               have HB7 := Lib.hid (HB6.out.next (new_sec hw7.out).2)
               have HS7 := Lib.hid (new_sec hw7.out).1
               have HU7 := Lib.hid (HU6.out.below (new_sec hw7.out).2 HU6.out.lt))
            | (refine wpList_val (by rfl) _ (ex_ld (.tmp 7) rfl w6.heap.size 0 xs rfl HS7.out.secIs) ?_)
            | (refine wpList_val (by rfl) _ (ex_ld (.tmp 1) rfl w.heap.size 0 s rfl HB7.out.sec.secIs) ?_)
            | (refine wpList_val (by rfl) _ (ex_neS (.tmp 39) (.tmp 40) rfl xs s rfl rfl) ?_; rw [HSM.out])
            | (with_reducible refine ld_ub rfl _ rfl w4.heap.size 0 (partsU s) rfl HU7.out.ubIs ?_))
          have hb2 : Blk w8 (w.heap.size + 1) 27 (Ub.cs (partsU s)).toArray := by rw [hw8.out]; exact HB7.out.ub.ubAll _
          exact bodyPost_ret (results_row_tmp rfl _ _ _ _ _ _ _ rfl hb2 Try.underlying27 rfl (sizeUb'' (partsU s))) rfl ⟨rfl, by rw [hw8.out]; exact Below.setCells _ (by omega) _ _ HB7.out.below⟩
        · skip
          go_simp
          refine hK.out _ _ ⟨hHeld.1.next ((Below.refl _ _).alloc (Nat.le_refl _) _), hHeld.2.below ((Below.refl _ _).alloc (Nat.le_refl _) (.cells zub.cs.toArray 27)) hHeld.2.lt⟩ (fun hHeld2 => ?_)
          clear hK K
          try simp
          clear hHeld
          have hHeld := hHeld2
          clear hHeld2
          refine wpAnyH_ready (rs := [9]) (by kernel_rfl) (by simp) ?_
          refine AllReadyH.cons rfl (fun K hK => ?_) AllReadyH.nil
          go_simp
          refine Calls.mono (HV4.out _ _ hHeld.1) ?_
          rintro e wX ⟨rfl, hwX⟩
          rw [hwX]
          clear hwX wX
          refine hK.out _ _ hHeld (fun hHeld2 => ?_)
          clear hK K
          try simp
          clear hHeld2
          refine wpAnyH_take (i := 10) (v := (.int .i64 (n4 : Int))) rfl (by kernel_rfl) (by kernel_rfl) (by kernel_rfl) (fun _ _ _ h => h) (Or.inl ⟨by rfl, ?_⟩) (by assumption) ?_
          · intro w' hS; go_simp; try with_reducible rfl
          try simp [Act.put]
          refine wpAnyH_take (i := 11) (v := (.agg (partsU s).cs.toArray)) rfl (by kernel_rfl) (by kernel_rfl) (by kernel_rfl) (fun _ _ _ h => h) (Or.inl ⟨by rfl, ?_⟩) (by assumption) ?_
          · intro w' hS
            exact ex_build5 (.tmp 20) (.tmp 22) (.tmp 23) (.tmp 26) (.tmp 29) rfl (.int .u64 (n1 : Int)) (.int .u64 (n2 : Int)) (ptv q1 q2 q3) (.int .i64 (n3 : Int)) (.int .i64 (n4 : Int)) _ rfl rfl rfl rfl rfl (HBU.out _)
          try simp [Act.put]
          refine wpAnyH_ready (rs := [13]) (by kernel_rfl) (by simp) ?_
          refine AllReadyH.cons rfl (fun K hK => ?_) AllReadyH.nil
          refine step_stU rfl (.tmp 6) (.tmp 30) rfl w4.heap.size 0 (partsU s) rfl rfl (Blk.ubHas (u := zub) (Blk.new w4 _ _)) ?_
          refine hK.out _ _ ⟨hH4.out.1.next (new_ub rfl).2, hH4.out.2.below (new_ub (x := partsU s) rfl).2 hH4.out.2.lt⟩ (fun hHeld2 => ?_)
          clear hK K hHeld
          try simp [Act.put]
          refine wpAnyH_done (by kernel_rfl) ?_ _
          have HB5 := Lib.hid hHeld2.1
          have HU5 := Lib.hid (new_ub (w := w4) (x := partsU s) rfl).1
          clear hHeld2 hH4
          generalize hw5 : (w4.alloc (.cells zub.cs.toArray 27)).setCells w4.heap.size 0 (partsU s).cs = w5 at *
          clear hw5
          go_wp2_with (first
            | (with_reducible refine st_ub rfl _ _ rfl (w.heap.size + 1) 0 (partsU s) rfl rfl HB7.out.ub.ubHas ?_; intro w8 hw8)
            | (with_reducible refine ld_ub rfl _ rfl w4.heap.size 0 (partsU s) rfl HU5.out.ubIs ?_)
            | (go_at_call 13; with_reducible refine Calls.mono (HY.out _) ?_; rintro e w6 ⟨rfl, hb6⟩; have HB6 := Lib.hid (HB5.out.next hb6); have HU6 := Lib.hid (HU5.out.below hb6 HU5.out.lt); clear hb6)
            | (with_reducible refine st_sec rfl _ _ rfl w6.heap.size 0 xs rfl rfl (Blk.secHas (s := zsec) (Blk.new w6 _ _)) ?_; intro w7 hw7
               have HB7 := Lib.hid (HB6.out.next (new_sec hw7.out).2)
               have HS7 := Lib.hid (new_sec hw7.out).1
               have HU7 := Lib.hid (HU6.out.below (new_sec hw7.out).2 HU6.out.lt))
            | (refine wpList_val (by rfl) _ (ex_ld (.tmp 7) rfl w6.heap.size 0 xs rfl HS7.out.secIs) ?_)
            | (refine wpList_val (by rfl) _ (ex_ld (.tmp 1) rfl w.heap.size 0 s rfl HB7.out.sec.secIs) ?_)
            | (refine wpList_val (by rfl) _ (ex_neS (.tmp 39) (.tmp 40) rfl xs s rfl rfl) ?_; rw [HSM.out])
            | (with_reducible refine ld_ub rfl _ rfl w4.heap.size 0 (partsU s) rfl HU7.out.ubIs ?_))
          have hb2 : Blk w8 (w.heap.size + 1) 27 (Ub.cs (partsU s)).toArray := by rw [hw8.out]; exact HB7.out.ub.ubAll _
          exact bodyPost_ret (results_row_tmp rfl _ _ _ _ _ _ _ rfl hb2 Try.underlying27 rfl (sizeUb'' (partsU s))) rfl ⟨rfl, by rw [hw8.out]; exact Below.setCells _ (by omega) _ _ HB7.out.below⟩
      · skip
        go_simp
        refine hK.out _ _ ⟨hHeld.1.next ((Below.refl _ _).alloc (Nat.le_refl _) _), hHeld.2.below ((Below.refl _ _).alloc (Nat.le_refl _) (.cells zub.cs.toArray 27)) hHeld.2.lt⟩ (fun hHeld2 => ?_)
        clear hK K
        try simp
        clear hHeld
        have hHeld := hHeld2
        clear hHeld2
        refine wpAnyH_ready (rs := [6]) (by kernel_rfl) (by simp) ?_
        refine AllReadyH.cons rfl (fun K hK => ?_) AllReadyH.nil
        go_simp
        refine Calls.mono (HV3.out _ _ hHeld.1) ?_
        rintro e wX ⟨rfl, hwX⟩
        rw [hwX]
        clear hwX wX
        refine hK.out _ _ hHeld (fun hHeld2 => ?_)
        clear hK K
        try simp
        clear hHeld2
        refine wpAnyH_take (i := 7) (v := (.int .i64 (n3 : Int))) rfl (by kernel_rfl) (by kernel_rfl) (by kernel_rfl) (fun _ _ _ h => h) (Or.inl ⟨by rfl, ?_⟩) (by assumption) ?_
        · intro w' hS; go_simp; try with_reducible rfl
        try simp [Act.put]
        refine wpAnyH_ready (rs := [9]) (by kernel_rfl) (by simp) ?_
        refine AllReadyH.cons rfl (fun K hK => ?_) AllReadyH.nil
        go_simp
        refine Calls.mono (HV4.out _ _ hHeld.1) ?_
        rintro e wX ⟨rfl, hwX⟩
        rw [hwX]
        clear hwX wX
        refine hK.out _ _ hHeld (fun hHeld2 => ?_)
        clear hK K
        try simp
        clear hHeld2
        refine wpAnyH_take (i := 10) (v := (.int .i64 (n4 : Int))) rfl (by kernel_rfl) (by kernel_rfl) (by kernel_rfl) (fun _ _ _ h => h) (Or.inl ⟨by rfl, ?_⟩) (by assumption) ?_
        · intro w' hS; go_simp; try with_reducible rfl
        try simp [Act.put]
        refine wpAnyH_take (i := 11) (v := (.agg (partsU s).cs.toArray)) rfl (by kernel_rfl) (by kernel_rfl) (by kernel_rfl) (fun _ _ _ h => h) (Or.inl ⟨by rfl, ?_⟩) (by assumption) ?_
        · intro w' hS
          exact ex_build5 (.tmp 20) (.tmp 22) (.tmp 23) (.tmp 26) (.tmp 29) rfl (.int .u64 (n1 : Int)) (.int .u64 (n2 : Int)) (ptv q1 q2 q3) (.int .i64 (n3 : Int)) (.int .i64 (n4 : Int)) _ rfl rfl rfl rfl rfl (HBU.out _)
        try simp [Act.put]
        refine wpAnyH_ready (rs := [13]) (by kernel_rfl) (by simp) ?_
        refine AllReadyH.cons rfl (fun K hK => ?_) AllReadyH.nil
        refine step_stU rfl (.tmp 6) (.tmp 30) rfl w4.heap.size 0 (partsU s) rfl rfl (Blk.ubHas (u := zub) (Blk.new w4 _ _)) ?_
        refine hK.out _ _ ⟨hH4.out.1.next (new_ub rfl).2, hH4.out.2.below (new_ub (x := partsU s) rfl).2 hH4.out.2.lt⟩ (fun hHeld2 => ?_)
        clear hK K hHeld
        try simp [Act.put]
        refine wpAnyH_done (by kernel_rfl) ?_ _
        have HB5 := Lib.hid hHeld2.1
        have HU5 := Lib.hid (new_ub (w := w4) (x := partsU s) rfl).1
        clear hHeld2 hH4
        generalize hw5 : (w4.alloc (.cells zub.cs.toArray 27)).setCells w4.heap.size 0 (partsU s).cs = w5 at *
        clear hw5
        go_wp2_with (first
          | (with_reducible refine st_ub rfl _ _ rfl (w.heap.size + 1) 0 (partsU s) rfl rfl HB7.out.ub.ubHas ?_; intro w8 hw8)
          | (with_reducible refine ld_ub rfl _ rfl w4.heap.size 0 (partsU s) rfl HU5.out.ubIs ?_)
          | (go_at_call 13; with_reducible refine Calls.mono (HY.out _) ?_; rintro e w6 ⟨rfl, hb6⟩; have HB6 := Lib.hid (HB5.out.next hb6); have HU6 := Lib.hid (HU5.out.below hb6 HU5.out.lt); clear hb6)
          | (with_reducible refine st_sec rfl _ _ rfl w6.heap.size 0 xs rfl rfl (Blk.secHas (s := zsec) (Blk.new w6 _ _)) ?_; intro w7 hw7
             have HB7 := Lib.hid (HB6.out.next (new_sec hw7.out).2)
             have HS7 := Lib.hid (new_sec hw7.out).1
             have HU7 := Lib.hid (HU6.out.below (new_sec hw7.out).2 HU6.out.lt))
          | (refine wpList_val (by rfl) _ (ex_ld (.tmp 7) rfl w6.heap.size 0 xs rfl HS7.out.secIs) ?_)
          | (refine wpList_val (by rfl) _ (ex_ld (.tmp 1) rfl w.heap.size 0 s rfl HB7.out.sec.secIs) ?_)
          | (refine wpList_val (by rfl) _ (ex_neS (.tmp 39) (.tmp 40) rfl xs s rfl rfl) ?_; rw [HSM.out])
          | (with_reducible refine ld_ub rfl _ rfl w4.heap.size 0 (partsU s) rfl HU7.out.ubIs ?_))
        have hb2 : Blk w8 (w.heap.size + 1) 27 (Ub.cs (partsU s)).toArray := by rw [hw8.out]; exact HB7.out.ub.ubAll _
        exact bodyPost_ret (results_row_tmp rfl _ _ _ _ _ _ _ rfl hb2 Try.underlying27 rfl (sizeUb'' (partsU s))) rfl ⟨rfl, by rw [hw8.out]; exact Below.setCells _ (by omega) _ _ HB7.out.below⟩
    · skip
      go_simp
      refine hK.out _ _ ⟨hHeld.1.next ((Below.refl _ _).alloc (Nat.le_refl _) _), hHeld.2.below ((Below.refl _ _).alloc (Nat.le_refl _) (.cells zub.cs.toArray 27)) hHeld.2.lt⟩ (fun hHeld2 => ?_)
      clear hK K
      try simp
      clear hHeld
      have hHeld := hHeld2
      clear hHeld2
      refine wpAnyH_ready (rs := [3]) (by kernel_rfl) (by simp) ?_
      refine AllReadyH.cons rfl (fun K hK => ?_) AllReadyH.nil
      go_simp
      refine Calls.mono (HV2.out _ _ hHeld.1) ?_
      rintro e wX ⟨rfl, hwX⟩
      rw [hwX]
      clear hwX wX
      refine hK.out _ _ hHeld (fun hHeld2 => ?_)
      clear hK K
      try simp
      clear hHeld2
      refine wpAnyH_ready (rs := [6]) (by kernel_rfl) (by simp) ?_
      refine AllReadyH.cons rfl (fun K hK => ?_) AllReadyH.nil
      go_simp
      refine Calls.mono (HV3.out _ _ hHeld.1) ?_
      rintro e wX ⟨rfl, hwX⟩
      rw [hwX]
      clear hwX wX
      refine hK.out _ _ hHeld (fun hHeld2 => ?_)
      clear hK K
      try simp
      clear hHeld2
      refine wpAnyH_take (i := 7) (v := (.int .i64 (n3 : Int))) rfl (by kernel_rfl) (by kernel_rfl) (by kernel_rfl) (fun _ _ _ h => h) (Or.inl ⟨by rfl, ?_⟩) (by assumption) ?_
      · intro w' hS; go_simp; try with_reducible rfl
      try simp [Act.put]
      refine wpAnyH_ready (rs := [9]) (by kernel_rfl) (by simp) ?_
      refine AllReadyH.cons rfl (fun K hK => ?_) AllReadyH.nil
      go_simp
      refine Calls.mono (HV4.out _ _ hHeld.1) ?_
      rintro e wX ⟨rfl, hwX⟩
      rw [hwX]
      clear hwX wX
      refine hK.out _ _ hHeld (fun hHeld2 => ?_)
      clear hK K
      try simp
      clear hHeld2
      refine wpAnyH_take (i := 10) (v := (.int .i64 (n4 : Int))) rfl (by kernel_rfl) (by kernel_rfl) (by kernel_rfl) (fun _ _ _ h => h) (Or.inl ⟨by rfl, ?_⟩) (by assumption) ?_
      · intro w' hS; go_simp; try with_reducible rfl
      try simp [Act.put]
      refine wpAnyH_take (i := 11) (v := (.agg (partsU s).cs.toArray)) rfl (by kernel_rfl) (by kernel_rfl) (by kernel_rfl) (fun _ _ _ h => h) (Or.inl ⟨by rfl, ?_⟩) (by assumption) ?_
      · intro w' hS
        exact ex_build5 (.tmp 20) (.tmp 22) (.tmp 23) (.tmp 26) (.tmp 29) rfl (.int .u64 (n1 : Int)) (.int .u64 (n2 : Int)) (ptv q1 q2 q3) (.int .i64 (n3 : Int)) (.int .i64 (n4 : Int)) _ rfl rfl rfl rfl rfl (HBU.out _)
      try simp [Act.put]
      refine wpAnyH_ready (rs := [13]) (by kernel_rfl) (by simp) ?_
      refine AllReadyH.cons rfl (fun K hK => ?_) AllReadyH.nil
      refine step_stU rfl (.tmp 6) (.tmp 30) rfl w4.heap.size 0 (partsU s) rfl rfl (Blk.ubHas (u := zub) (Blk.new w4 _ _)) ?_
      refine hK.out _ _ ⟨hH4.out.1.next (new_ub rfl).2, hH4.out.2.below (new_ub (x := partsU s) rfl).2 hH4.out.2.lt⟩ (fun hHeld2 => ?_)
      clear hK K hHeld
      try simp [Act.put]
      refine wpAnyH_done (by kernel_rfl) ?_ _
      have HB5 := Lib.hid hHeld2.1
      have HU5 := Lib.hid (new_ub (w := w4) (x := partsU s) rfl).1
      clear hHeld2 hH4
      generalize hw5 : (w4.alloc (.cells zub.cs.toArray 27)).setCells w4.heap.size 0 (partsU s).cs = w5 at *
      clear hw5
      go_wp2_with (first
        | (with_reducible refine st_ub rfl _ _ rfl (w.heap.size + 1) 0 (partsU s) rfl rfl HB7.out.ub.ubHas ?_; intro w8 hw8)
        | (with_reducible refine ld_ub rfl _ rfl w4.heap.size 0 (partsU s) rfl HU5.out.ubIs ?_)
        | (go_at_call 13; with_reducible refine Calls.mono (HY.out _) ?_; rintro e w6 ⟨rfl, hb6⟩; have HB6 := Lib.hid (HB5.out.next hb6); have HU6 := Lib.hid (HU5.out.below hb6 HU5.out.lt); clear hb6)
        | (with_reducible refine st_sec rfl _ _ rfl w6.heap.size 0 xs rfl rfl (Blk.secHas (s := zsec) (Blk.new w6 _ _)) ?_; intro w7 hw7
           have HB7 := Lib.hid (HB6.out.next (new_sec hw7.out).2)
           have HS7 := Lib.hid (new_sec hw7.out).1
           have HU7 := Lib.hid (HU6.out.below (new_sec hw7.out).2 HU6.out.lt))
        | (refine wpList_val (by rfl) _ (ex_ld (.tmp 7) rfl w6.heap.size 0 xs rfl HS7.out.secIs) ?_)
        | (refine wpList_val (by rfl) _ (ex_ld (.tmp 1) rfl w.heap.size 0 s rfl HB7.out.sec.secIs) ?_)
        | (refine wpList_val (by rfl) _ (ex_neS (.tmp 39) (.tmp 40) rfl xs s rfl rfl) ?_; rw [HSM.out])
        | (with_reducible refine ld_ub rfl _ rfl w4.heap.size 0 (partsU s) rfl HU7.out.ubIs ?_))
      have hb2 : Blk w8 (w.heap.size + 1) 27 (Ub.cs (partsU s)).toArray := by rw [hw8.out]; exact HB7.out.ub.ubAll _
      exact bodyPost_ret (results_row_tmp rfl _ _ _ _ _ _ _ rfl hb2 Try.underlying27 rfl (sizeUb'' (partsU s))) rfl ⟨rfl, by rw [hw8.out]; exact Below.setCells _ (by omega) _ _ HB7.out.below⟩
  · skip
    go_simp
    refine hK.out _ _ ⟨hHeld.1.next ((Below.refl _ _).alloc (Nat.le_refl _) _), hHeld.2.below ((Below.refl _ _).alloc (Nat.le_refl _) (.cells zub.cs.toArray 27)) hHeld.2.lt⟩ (fun hHeld2 => ?_)
    clear hK K
    try simp
    clear hHeld
    have hHeld := hHeld2
    clear hHeld2
    refine wpAnyH_ready (rs := [1]) (by kernel_rfl) (by simp) ?_
    refine AllReadyH.cons rfl (fun K hK => ?_) AllReadyH.nil
    go_simp
    refine Calls.mono (HV1.out _ _ hHeld.1) ?_
    rintro e wX ⟨rfl, hwX⟩
    rw [hwX]
    clear hwX wX
    refine hK.out _ _ hHeld (fun hHeld2 => ?_)
    clear hK K
    try simp
    clear hHeld2
    refine wpAnyH_ready (rs := [3]) (by kernel_rfl) (by simp) ?_
    refine AllReadyH.cons rfl (fun K hK => ?_) AllReadyH.nil
    go_simp
    refine Calls.mono (HV2.out _ _ hHeld.1) ?_
    rintro e wX ⟨rfl, hwX⟩
    rw [hwX]
    clear hwX wX
    refine hK.out _ _ hHeld (fun hHeld2 => ?_)
    clear hK K
    try simp
    clear hHeld2
    refine wpAnyH_ready (rs := [6]) (by kernel_rfl) (by simp) ?_
    refine AllReadyH.cons rfl (fun K hK => ?_) AllReadyH.nil
    go_simp
    refine Calls.mono (HV3.out _ _ hHeld.1) ?_
    rintro e wX ⟨rfl, hwX⟩
    rw [hwX]
    clear hwX wX
    refine hK.out _ _ hHeld (fun hHeld2 => ?_)
    clear hK K
    try simp
    clear hHeld2
    refine wpAnyH_take (i := 7) (v := (.int .i64 (n3 : Int))) rfl (by kernel_rfl) (by kernel_rfl) (by kernel_rfl) (fun _ _ _ h => h) (Or.inl ⟨by rfl, ?_⟩) (by assumption) ?_
    · intro w' hS; go_simp; try with_reducible rfl
    try simp [Act.put]
    refine wpAnyH_ready (rs := [9]) (by kernel_rfl) (by simp) ?_
    refine AllReadyH.cons rfl (fun K hK => ?_) AllReadyH.nil
    go_simp
    refine Calls.mono (HV4.out _ _ hHeld.1) ?_
    rintro e wX ⟨rfl, hwX⟩
    rw [hwX]
    clear hwX wX
    refine hK.out _ _ hHeld (fun hHeld2 => ?_)
    clear hK K
    try simp
    clear hHeld2
    refine wpAnyH_take (i := 10) (v := (.int .i64 (n4 : Int))) rfl (by kernel_rfl) (by kernel_rfl) (by kernel_rfl) (fun _ _ _ h => h) (Or.inl ⟨by rfl, ?_⟩) (by assumption) ?_
    · intro w' hS; go_simp; try with_reducible rfl
    try simp [Act.put]
    refine wpAnyH_take (i := 11) (v := (.agg (partsU s).cs.toArray)) rfl (by kernel_rfl) (by kernel_rfl) (by kernel_rfl) (fun _ _ _ h => h) (Or.inl ⟨by rfl, ?_⟩) (by assumption) ?_
    · intro w' hS
      exact ex_build5 (.tmp 20) (.tmp 22) (.tmp 23) (.tmp 26) (.tmp 29) rfl (.int .u64 (n1 : Int)) (.int .u64 (n2 : Int)) (ptv q1 q2 q3) (.int .i64 (n3 : Int)) (.int .i64 (n4 : Int)) _ rfl rfl rfl rfl rfl (HBU.out _)
    try simp [Act.put]
    refine wpAnyH_ready (rs := [13]) (by kernel_rfl) (by simp) ?_
    refine AllReadyH.cons rfl (fun K hK => ?_) AllReadyH.nil
    refine step_stU rfl (.tmp 6) (.tmp 30) rfl w4.heap.size 0 (partsU s) rfl rfl (Blk.ubHas (u := zub) (Blk.new w4 _ _)) ?_
    refine hK.out _ _ ⟨hH4.out.1.next (new_ub rfl).2, hH4.out.2.below (new_ub (x := partsU s) rfl).2 hH4.out.2.lt⟩ (fun hHeld2 => ?_)
    clear hK K hHeld
    try simp [Act.put]
    refine wpAnyH_done (by kernel_rfl) ?_ _
    have HB5 := Lib.hid hHeld2.1
    have HU5 := Lib.hid (new_ub (w := w4) (x := partsU s) rfl).1
    clear hHeld2 hH4
    generalize hw5 : (w4.alloc (.cells zub.cs.toArray 27)).setCells w4.heap.size 0 (partsU s).cs = w5 at *
    clear hw5
    go_wp2_with (first
      | (with_reducible refine st_ub rfl _ _ rfl (w.heap.size + 1) 0 (partsU s) rfl rfl HB7.out.ub.ubHas ?_; intro w8 hw8)
      | (with_reducible refine ld_ub rfl _ rfl w4.heap.size 0 (partsU s) rfl HU5.out.ubIs ?_)
      | (go_at_call 13; with_reducible refine Calls.mono (HY.out _) ?_; rintro e w6 ⟨rfl, hb6⟩; have HB6 := Lib.hid (HB5.out.next hb6); have HU6 := Lib.hid (HU5.out.below hb6 HU5.out.lt); clear hb6)
      | (with_reducible refine st_sec rfl _ _ rfl w6.heap.size 0 xs rfl rfl (Blk.secHas (s := zsec) (Blk.new w6 _ _)) ?_; intro w7 hw7
         have HB7 := Lib.hid (HB6.out.next (new_sec hw7.out).2)
         have HS7 := Lib.hid (new_sec hw7.out).1
         have HU7 := Lib.hid (HU6.out.below (new_sec hw7.out).2 HU6.out.lt))
      | (refine wpList_val (by rfl) _ (ex_ld (.tmp 7) rfl w6.heap.size 0 xs rfl HS7.out.secIs) ?_)
      | (refine wpList_val (by rfl) _ (ex_ld (.tmp 1) rfl w.heap.size 0 s rfl HB7.out.sec.secIs) ?_)
      | (refine wpList_val (by rfl) _ (ex_neS (.tmp 39) (.tmp 40) rfl xs s rfl rfl) ?_; rw [HSM.out])
      | (with_reducible refine ld_ub rfl _ rfl w4.heap.size 0 (partsU s) rfl HU7.out.ubIs ?_))
    have hb2 : Blk w8 (w.heap.size + 1) 27 (Ub.cs (partsU s)).toArray := by rw [hw8.out]; exact HB7.out.ub.ubAll _
    exact bodyPost_ret (results_row_tmp rfl _ _ _ _ _ _ _ rfl hb2 Try.underlying27 rfl (sizeUb'' (partsU s))) rfl ⟨rfl, by rw [hw8.out]; exact Below.setCells _ (by omega) _ _ HB7.out.below⟩
theorem urread_any : Calls Try.prog 15 #[.agg s.cs.toArray] w fun e w' => e = .returned (.tuple #[.agg (readV s).cs.toArray, .bool (readB s)]) ∧ Below w.heap.size w w' := by
  rcases h : okF (tabL s) with _ | _
  · have hb := read_none h
    have hv : readV s = zub := by unfold readV; rw [hb]; rfl
    rw [hb, hv]
    exact rread_err s w h
  · rcases hr : rightU (partsU s) with _ | _
    · have hb : readB s = false := by simp [readB, hr]
      have hv : readV s = zub := by unfold readV; rw [hb]; rfl
      rw [hb, hv]
      exact rread6_err s w h hr
    · rcases hsm : (secU (partsU s)).same s with _ | _
      · have hb : readB s = false := by simp [readB, hsm]
        have hv : readV s = zub := by unfold readV; rw [hb]; rfl
        rw [hb, hv]
        exact rread6_un s w h hr hsm
      · have hb : readB s = true := by simp [readB, hr, hsm]
        have hv : readV s = partsU s := by unfold readV; rw [hb]; rfl
        rw [hb, hv]
        exact rread6_yes s w h hr hsm
end

/-- Cells at the head of blocks. -/
def Held (w : World) (L : List (Nat × List Value)) : Prop := ∀ p ∈ L, w.rangeAt p.1 0 p.2 ∧ p.1 < w.heap.size
theorem Held.below {w w' : World} {L : List (Nat × List Value)} (h : Held w L) (hb : Below w.heap.size w w') : Held w' L := fun p hp =>
  ⟨range_below (h p hp).1 hb (h p hp).2, Nat.lt_of_lt_of_le (h p hp).2 hb.size⟩
theorem Held.at_ {w : World} {L : List (Nat × List Value)} (h : Held w L) (g : Nat) (cs : List Value) (hm : (g, cs) ∈ L) : w.rangeAt g 0 cs := (h (g, cs) hm).1
theorem Held.nil (w : World) : Held w [] := fun _ h => by cases h
theorem Held.cons {w : World} {L : List (Nat × List Value)} {g : Nat} {cs : List Value} (h1 : w.rangeAt g 0 cs) (h2 : g < w.heap.size) (h : Held w L) : Held w ((g, cs) :: L) := fun p hp => by
  rcases List.mem_cons.1 hp with rfl | hp
  · exact ⟨h1, h2⟩
  · exact h p hp
theorem Held.ub {w : World} {L : List (Nat × List Value)} {g : Nat} {t : TypeId} {u : Ub} (h1 : Blk w g t u.cs.toArray) (h : Held w L) : Held w ((g, u.cs) :: L) := h.cons h1.ubIs h1.lt
theorem Held.sec {w : World} {L : List (Nat × List Value)} {g : Nat} {t : TypeId} {s : Sec} (h1 : Blk w g t s.cs.toArray) (h : Held w L) : Held w ((g, s.cs) :: L) := h.cons h1.secIs h1.lt
theorem two_us (w : World) (u : Ub) (s : Sec) : Held ((w.alloc (.cells u.cs.toArray 27)).alloc (.cells s.cs.toArray 34)) [(w.heap.size, u.cs), (w.heap.size + 1, s.cs)] :=
  Held.ub (two_new u w s).1 (Held.sec (two_new u w s).2 (Held.nil _))
theorem Held.new_sec {w w' : World} {L : List (Nat × List Value)} {x : Sec} (h : Held w L) (hw : w' = (w.alloc (.cells zsec.cs.toArray 34)).setCells w.heap.size 0 x.cs) : Held w' ((w.heap.size, x.cs) :: L) :=
  Held.sec (Go.Proofs.Ytegcknloemgndaa.new_sec hw).1 (h.below (Go.Proofs.Ytegcknloemgndaa.new_sec hw).2)
theorem Held.new_ub {w w' : World} {L : List (Nat × List Value)} {x : Ub} (h : Held w L) (hw : w' = (w.alloc (.cells zub.cs.toArray 27)).setCells w.heap.size 0 x.cs) : Held w' ((w.heap.size, x.cs) :: L) :=
  Held.ub (Go.Proofs.Ytegcknloemgndaa.new_ub hw).1 (h.below (Go.Proofs.Ytegcknloemgndaa.new_ub hw).2)
set_option maxHeartbeats 2000000 in
theorem bytesL_any (u : Ub) (s : Sec) (w : World) : Calls Try.prog 4 #[.agg u.cs.toArray, .agg s.cs.toArray] w fun e w' => e = .returned (.bool true) ∧ Below w.heap.size w w' := by
  have hz : ∀ w, Sem.run Try.prog (zeroValue 27) w = .ok (.agg zub.cs.toArray) w := zeroUb
  have hzs : ∀ w, Sem.run Try.prog (zeroValue 34) w = .ok (.agg zsec.cs.toArray) w := zeroSec
  have HAL := Lib.hid alive_any
  have HP1 := Lib.hid (ubytes_any u)
  have HP2 := Lib.hid (rubytes_any u)
  have HR1 := Lib.hid (uread_any s)
  have HR2 := Lib.hid (urread_any s)
  have HQ1 := Lib.hid (uright_any u)
  have HQ2 := Lib.hid (urright_any u)
  have HH0 := Lib.hid (two_us w u s)
  have HB0 : Hid (Below w.heap.size w ((w.alloc (.cells u.cs.toArray 27)).alloc (.cells s.cs.toArray 34))) := ((Below.refl w.heap.size w).alloc (Nat.le_refl _) _).alloc (by simp) _
  generalize bytesS u = x at *
  generalize bytesC u = c at *
  generalize readV s = v at *
  generalize readB s = z at *
  generalize rightU u = r at *
  have HXX := Lib.hid (Sec.same_self x)
  have HVV := Lib.hid (Ub.same_self v)
  go_enter Try.func4, Try.ntmps4
  go_wp2_with (first
    | (with_reducible refine ld_ub rfl _ rfl w.heap.size 0 u rfl (HH0.out.at_ (w.heap.size) u.cs (by simp)) ?_)
    | (go_at_call 12; with_reducible refine Calls.mono (HP1.out _) ?_; rintro e w1 ⟨rfl, hb⟩; have HH1 := Lib.hid (HH0.out.below hb); have HB1 := Lib.hid (HB0.out.trans (hb.mono HB0.out.size)); clear hb HH0)
    | (with_reducible refine st_sec rfl _ _ rfl w1.heap.size 0 x rfl rfl (Blk.secHas (s := zsec) (Blk.new w1 _ _)) ?_; intro w2 hw2
       have HH2 := Lib.hid (HH1.out.new_sec hw2.out)
       have HB2 := Lib.hid (HB1.out.trans ((new_sec hw2.out).2.mono HB1.out.size))
       clear HH1)
    | (with_reducible refine ld_ub rfl _ rfl w.heap.size 0 u rfl (HH2.out.at_ (w.heap.size) u.cs (by simp)) ?_)
    | (go_at_call 13; with_reducible refine Calls.mono (HP2.out _) ?_; rintro e w3 ⟨rfl, hb⟩; have HH3 := Lib.hid (HH2.out.below hb); have HB3 := Lib.hid (HB2.out.trans (hb.mono HB2.out.size)); clear hb HH2)
    | (with_reducible refine st_sec rfl _ _ rfl w3.heap.size 0 x rfl rfl (Blk.secHas (s := zsec) (Blk.new w3 _ _)) ?_; intro w4 hw4
       have HH4 := Lib.hid (HH3.out.new_sec hw4.out)
       have HB4 := Lib.hid (HB3.out.trans ((new_sec hw4.out).2.mono HB3.out.size))
       clear HH3)
    | (with_reducible refine ld_sec rfl _ rfl (w.heap.size + 1) 0 s rfl (HH4.out.at_ (w.heap.size + 1) s.cs (by simp)) ?_)
    | (go_at_call 14; with_reducible refine Calls.mono (HR1.out _) ?_; rintro e w5 ⟨rfl, hb⟩; have HH5 := Lib.hid (HH4.out.below hb); have HB5 := Lib.hid (HB4.out.trans (hb.mono HB4.out.size)); clear hb HH4)
    | (with_reducible refine st_ub rfl _ _ rfl w5.heap.size 0 v rfl rfl (Blk.ubHas (u := zub) (Blk.new w5 _ _)) ?_; intro w6 hw6
       have HH6 := Lib.hid (HH5.out.new_ub hw6.out)
       have HB6 := Lib.hid (HB5.out.trans ((new_ub hw6.out).2.mono HB5.out.size))
       clear HH5)
    | (with_reducible refine ld_sec rfl _ rfl (w.heap.size + 1) 0 s rfl (HH6.out.at_ (w.heap.size + 1) s.cs (by simp)) ?_)
    | (go_at_call 15; with_reducible refine Calls.mono (HR2.out _) ?_; rintro e w7 ⟨rfl, hb⟩; have HH7 := Lib.hid (HH6.out.below hb); have HB7 := Lib.hid (HB6.out.trans (hb.mono HB6.out.size)); clear hb HH6)
    | (with_reducible refine st_ub rfl _ _ rfl w7.heap.size 0 v rfl rfl (Blk.ubHas (u := zub) (Blk.new w7 _ _)) ?_; intro w8 hw8
       have HH8 := Lib.hid (HH7.out.new_ub hw8.out)
       have HB8 := Lib.hid (HB7.out.trans ((new_ub hw8.out).2.mono HB7.out.size))
       clear HH7))
  have hS1 : Hid ((fun w' => Held w' [(w7.heap.size, v.cs), (w5.heap.size, v.cs), (w3.heap.size, x.cs), (w1.heap.size, x.cs), (w.heap.size, u.cs), (w.heap.size + 1, s.cs)] ∧ Below w.heap.size w w') w8.drew) := ⟨HH8.out.below (Below.refl _ _).drew, HB8.out.drew⟩
  refine wp_region_held_drew (S := (fun w' => Held w' [(w7.heap.size, v.cs), (w5.heap.size, v.cs), (w3.heap.size, x.cs), (w1.heap.size, x.cs), (w.heap.size, u.cs), (w.heap.size + 1, s.cs)] ∧ Below w.heap.size w w')) (by kernel_rfl) hS1.out (fun hHeld => ?_)
  clear hS1 HH8 HB8 HB0 HB1 HB2 HB3 HB4 HB5 HB6 HB7 hw2 hw4 hw6 hw8 HP1 HP2 HR1 HR2 hz hzs
  generalize w8.drew = w9 at *
  refine wpAnyH_ready (rs := [0]) (by kernel_rfl) (by simp) ?_
  refine AllReadyH.cons rfl (fun K hK => ?_) AllReadyH.nil
  go_simp
  refine Calls.mono (HAL.out _) ?_
  rintro e wX ⟨rfl, hX⟩
  refine hK.out _ _ (⟨hHeld.1.below hX, hHeld.2.trans (hX.mono hHeld.2.size)⟩) (fun hHeld2 => ?_)
  clear hK K
  try simp
  clear hHeld
  have hHeld := hHeld2
  clear hHeld2
  refine wpAnyH_take (i := 1) (v := (.bool true)) rfl (by kernel_rfl) (by kernel_rfl) (by kernel_rfl) (fun _ _ _ h => h) (Or.inl ⟨by rfl, ?_⟩) (by assumption) ?_
  · intro w' hS; go_simp; try with_reducible rfl
  try simp [Act.put]
  refine wpAnyH_take (i := 2) (v := (.agg u.cs.toArray)) rfl (by kernel_rfl) (by kernel_rfl) (by kernel_rfl) (fun _ _ _ h => h) (Or.inl ⟨by rfl, ?_⟩) (by assumption) ?_
  · intro w' hS
    exact ex_ldU (.tmp 2) rfl w.heap.size 0 u rfl (hS.1.at_ (w.heap.size) u.cs (by simp))
  try simp [Act.put]
  refine wpAnyH_take (i := 4) (v := (.agg u.cs.toArray)) rfl (by kernel_rfl) (by kernel_rfl) (by kernel_rfl) (fun _ _ _ h => h) (Or.inl ⟨by rfl, ?_⟩) (by assumption) ?_
  · intro w' hS
    exact ex_ldU (.tmp 2) rfl w.heap.size 0 u rfl (hS.1.at_ (w.heap.size) u.cs (by simp))
  try simp [Act.put]
  refine wpAnyH_ready (rs := [3]) (by kernel_rfl) (by simp) ?_
  refine AllReadyH.cons rfl (fun K hK => ?_) AllReadyH.nil
  go_simp
  refine Calls.mono (HQ1.out _) ?_
  rintro e wX ⟨rfl, hX⟩
  refine hK.out _ _ (⟨hHeld.1.below hX, hHeld.2.trans (hX.mono hHeld.2.size)⟩) (fun hHeld2 => ?_)
  clear hK K
  try simp
  clear hHeld
  have hHeld := hHeld2
  clear hHeld2
  refine wpAnyH_ready (rs := [5]) (by kernel_rfl) (by simp) ?_
  refine AllReadyH.cons rfl (fun K hK => ?_) AllReadyH.nil
  go_simp
  refine Calls.mono (HQ2.out _) ?_
  rintro e wX ⟨rfl, hX⟩
  refine hK.out _ _ (⟨hHeld.1.below hX, hHeld.2.trans (hX.mono hHeld.2.size)⟩) (fun hHeld2 => ?_)
  clear hK K
  try simp
  clear hHeld
  have hHeld := hHeld2
  clear hHeld2
  refine wpAnyH_take (i := 6) (v := (.bool true)) rfl (by kernel_rfl) (by kernel_rfl) (by kernel_rfl) (fun _ _ _ h => h) (Or.inl ⟨by rfl, ?_⟩) (by assumption) ?_
  · intro w' hS; go_simp; try with_reducible rfl
  try simp [Act.put]
  refine wpAnyH_take (i := 7) (v := (.bool true)) rfl (by kernel_rfl) (by kernel_rfl) (by kernel_rfl) (fun _ _ _ h => h) (Or.inl ⟨by rfl, ?_⟩) (by assumption) ?_
  · intro w' hS; go_simp; try with_reducible rfl
  try simp [Act.put]
  refine wpAnyH_take (i := 8) (v := (.bool true)) rfl (by kernel_rfl) (by kernel_rfl) (by kernel_rfl) (fun _ _ _ h => h) (Or.inl ⟨by rfl, ?_⟩) (by assumption) ?_
  · intro w' hS; go_simp; try with_reducible rfl
  try simp [Act.put]
  refine wpAnyH_take (i := 9) (v := (.agg x.cs.toArray)) rfl (by kernel_rfl) (by kernel_rfl) (by kernel_rfl) (fun _ _ _ h => h) (Or.inl ⟨by rfl, ?_⟩) (by assumption) ?_
  · intro w' hS
    exact ex_ld (.tmp 5) rfl w1.heap.size 0 x rfl (hS.1.at_ (w1.heap.size) x.cs (by simp))
  try simp [Act.put]
  refine wpAnyH_take (i := 10) (v := (.agg x.cs.toArray)) rfl (by kernel_rfl) (by kernel_rfl) (by kernel_rfl) (fun _ _ _ h => h) (Or.inl ⟨by rfl, ?_⟩) (by assumption) ?_
  · intro w' hS
    exact ex_ld (.tmp 7) rfl w3.heap.size 0 x rfl (hS.1.at_ (w3.heap.size) x.cs (by simp))
  try simp [Act.put]
  refine wpAnyH_take (i := 11) (v := (.bool true)) rfl (by kernel_rfl) (by kernel_rfl) (by kernel_rfl) (fun _ _ _ h => h) (Or.inl ⟨by rfl, ?_⟩) (by assumption) ?_
  · intro w' hS
    refine (ex_eqS (.tmp 42) (.tmp 43) rfl x x rfl rfl).trans ?_
    rw [HXX.out]
  try simp [Act.put]
  refine wpAnyH_take (i := 12) (v := (.bool true)) rfl (by kernel_rfl) (by kernel_rfl) (by kernel_rfl) (fun _ _ _ h => h) (Or.inl ⟨by rfl, ?_⟩) (by assumption) ?_
  · intro w' hS; go_simp; try with_reducible rfl
  try simp [Act.put]
  refine wpAnyH_take (i := 13) (v := (.bool true)) rfl (by kernel_rfl) (by kernel_rfl) (by kernel_rfl) (fun _ _ _ h => h) (Or.inl ⟨by rfl, ?_⟩) (by assumption) ?_
  · intro w' hS; go_simp; try with_reducible rfl
  try simp [Act.put]
  refine wpAnyH_take (i := 14) (v := (.int .i64 c)) rfl (by kernel_rfl) (by kernel_rfl) (by kernel_rfl) (fun _ _ _ h => h) (Or.inl ⟨by rfl, ?_⟩) (by assumption) ?_
  · intro w' hS; go_simp; try with_reducible rfl
  try simp [Act.put]
  refine wpAnyH_take (i := 15) (v := (.int .i64 c)) rfl (by kernel_rfl) (by kernel_rfl) (by kernel_rfl) (fun _ _ _ h => h) (Or.inl ⟨by rfl, ?_⟩) (by assumption) ?_
  · intro w' hS; go_simp; try with_reducible rfl
  try simp [Act.put]
  refine wpAnyH_take (i := 16) (v := (.bool true)) rfl (by kernel_rfl) (by kernel_rfl) (by kernel_rfl) (fun _ _ _ h => h) (Or.inl ⟨by rfl, ?_⟩) (by assumption) ?_
  · intro w' hS; go_simp; try with_reducible rfl
  try simp [Act.put]
  refine wpAnyH_take (i := 17) (v := (.bool true)) rfl (by kernel_rfl) (by kernel_rfl) (by kernel_rfl) (fun _ _ _ h => h) (Or.inl ⟨by rfl, ?_⟩) (by assumption) ?_
  · intro w' hS; go_simp; try with_reducible rfl
  try simp [Act.put]
  refine wpAnyH_take (i := 18) (v := (.bool true)) rfl (by kernel_rfl) (by kernel_rfl) (by kernel_rfl) (fun _ _ _ h => h) (Or.inl ⟨by rfl, ?_⟩) (by assumption) ?_
  · intro w' hS; go_simp; try with_reducible rfl
  try simp [Act.put]
  refine wpAnyH_take (i := 19) (v := (.agg v.cs.toArray)) rfl (by kernel_rfl) (by kernel_rfl) (by kernel_rfl) (fun _ _ _ h => h) (Or.inl ⟨by rfl, ?_⟩) (by assumption) ?_
  · intro w' hS
    exact ex_ldU (.tmp 9) rfl w5.heap.size 0 v rfl (hS.1.at_ (w5.heap.size) v.cs (by simp))
  try simp [Act.put]
  refine wpAnyH_take (i := 20) (v := (.agg v.cs.toArray)) rfl (by kernel_rfl) (by kernel_rfl) (by kernel_rfl) (fun _ _ _ h => h) (Or.inl ⟨by rfl, ?_⟩) (by assumption) ?_
  · intro w' hS
    exact ex_ldU (.tmp 11) rfl w7.heap.size 0 v rfl (hS.1.at_ (w7.heap.size) v.cs (by simp))
  try simp [Act.put]
  refine wpAnyH_take (i := 21) (v := (.bool true)) rfl (by kernel_rfl) (by kernel_rfl) (by kernel_rfl) (fun _ _ _ h => h) (Or.inl ⟨by rfl, ?_⟩) (by assumption) ?_
  · intro w' hS
    refine (ex_eqU (.tmp 52) (.tmp 53) rfl v v rfl rfl).trans ?_
    rw [HVV.out]
  try simp [Act.put]
  refine wpAnyH_take (i := 22) (v := (.bool true)) rfl (by kernel_rfl) (by kernel_rfl) (by kernel_rfl) (fun _ _ _ h => h) (Or.inl ⟨by rfl, ?_⟩) (by assumption) ?_
  · intro w' hS; go_simp; try with_reducible rfl
  try simp [Act.put]
  refine wpAnyH_take (i := 23) (v := (.bool true)) rfl (by kernel_rfl) (by kernel_rfl) (by kernel_rfl) (fun _ _ _ h => h) (Or.inl ⟨by rfl, ?_⟩) (by assumption) ?_
  · intro w' hS; go_simp; try with_reducible rfl
  try simp [Act.put]
  refine wpAnyH_take (i := 24) (v := (.bool z)) rfl (by kernel_rfl) (by kernel_rfl) (by kernel_rfl) (fun _ _ _ h => h) (Or.inl ⟨by rfl, ?_⟩) (by assumption) ?_
  · intro w' hS; go_simp; try with_reducible rfl
  try simp [Act.put]
  refine wpAnyH_take (i := 25) (v := (.bool z)) rfl (by kernel_rfl) (by kernel_rfl) (by kernel_rfl) (fun _ _ _ h => h) (Or.inl ⟨by rfl, ?_⟩) (by assumption) ?_
  · intro w' hS; go_simp; try with_reducible rfl
  try simp [Act.put]
  refine wpAnyH_take (i := 26) (v := (.bool true)) rfl (by kernel_rfl) (by kernel_rfl) (by kernel_rfl) (fun _ _ _ h => h) (Or.inl ⟨by rfl, ?_⟩) (by assumption) ?_
  · intro w' hS; go_simp; try with_reducible rfl
  try simp [Act.put]
  refine wpAnyH_take (i := 27) (v := (.bool true)) rfl (by kernel_rfl) (by kernel_rfl) (by kernel_rfl) (fun _ _ _ h => h) (Or.inl ⟨by rfl, ?_⟩) (by assumption) ?_
  · intro w' hS; go_simp; try with_reducible rfl
  try simp [Act.put]
  refine wpAnyH_take (i := 28) (v := (.bool true)) rfl (by kernel_rfl) (by kernel_rfl) (by kernel_rfl) (fun _ _ _ h => h) (Or.inl ⟨by rfl, ?_⟩) (by assumption) ?_
  · intro w' hS; go_simp; try with_reducible rfl
  try simp [Act.put]
  refine wpAnyH_done (by kernel_rfl) ?_ _
  have HF := Lib.hid hHeld.2
  clear hHeld
  go_wp2_with fail
  go_ret
  exact ⟨rfl, HF.out⟩
end Go.Proofs.Ytegcknloemgndaa
