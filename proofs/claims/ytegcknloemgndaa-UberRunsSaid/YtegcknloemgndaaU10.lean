/- Walks: Best. -/
import Derived.Test.YtegcknloemgndaaU9
set_option maxRecDepth 10000
namespace Go.Proofs.Ytegcknloemgndaa
open Go.RowKit

theorem list_len (n : Nat) (s : St) : (listF n s).length ≤ 4 := by
  rw [listF, (sortUs_perm _).length_eq]
  exact slots_len n s 4
def bestO (n : Nat) (s : St) : Option Ub := (listF n s).getLast?
section
variable {w : World} {B n : Nat} {D : Dev} {pv : Value} {s : St}
theorem RdN.ub {A : Option Addr} {l : List Ub} (h : RdN w D pv A (flatU l)) (k : Nat) (hk : k < l.length) : ∃ b off, A = some ⟨b, off, none⟩ ∧ w.rangeAt b (off + k * 7) l[k].cs :=
  let ⟨b, off, e, _, hr⟩ := h.rd.ub k hk
  ⟨b, off, e, hr⟩
set_option maxHeartbeats 1000000 in
theorem best_any (h : At w B n D pv s) : Calls Try.prog 9 #[.pointer (some ⟨D.g, 0, none⟩)] w fun e w' =>
    e = .returned (.tuple #[.agg ((bestO n s).getD zub).cs.toArray, .bool (bestO n s).isSome]) ∧ At w' B n D pv (s.counts 4) ∧ Goes D w pv w' pv := by
  have hz : ∀ w, Sem.run Try.prog (zeroValue 27) w = .ok (.agg zub.cs.toArray) w := zeroUb
  have hbz : ∀ w, (Instr.build 27 #[]).run Try.prog w = .ok (.agg zub.cs.toArray) w := buildZU
  have hbn : Below w.heap.size w (w.alloc (.cells zub.cs.toArray 27)) := (Below.refl _ _).alloc (Nat.le_refl _) _
  have HA := Lib.hid (h.of_below hbn)
  have HG := Lib.hid (Goes.of_below D pv hbn)
  have HB := Lib.hid (Blk.new w 27 zub.cs.toArray)
  have HN := Lib.hid (show ¬ D.own pv w.heap.size from h.new_far)
  have HL := Lib.hid (list_any HA.out)
  have HE : Hid (bestO n s = (listF n s).getLast?) := rfl
  have HLL := Lib.hid (list_len n s)
  clear h hbn
  generalize listF n s = l at *
  generalize bestO n s = be at *
  rcases Nat.eq_zero_or_pos l.length with h0 | h0
  · obtain rfl : l = [] := List.eq_nil_of_length_eq_zero h0
    have e : be = none := HE.out
    subst e
    clear h0 HE
    go_enter Try.func9, Try.ntmps9
    go_wp2_with (first
      | (go_at_call 25; refine (HL.out).mono ?_; rintro e w1 ⟨A, c, rfl, hr, hA1, hG1⟩
         have HA1 := Lib.hid hA1
         have HG1 := Lib.hid (HG.out.trans hG1)
         have HB1 := Lib.hid (HB.out.chg hG1.chg HN.out)
         clear hA1 hG1 hr)
      | (with_reducible refine st_ub rfl _ _ rfl w.heap.size 0 zub rfl rfl HB1.out.ubHas ?_; intro w2 hw2))
    have hb2 : Blk w2 w.heap.size 27 zub.cs.toArray := by rw [hw2.out]; exact HB1.out.ubAll _
    have hc : Chg w1 w2 (· = w.heap.size) := by rw [hw2.out]; exact Chg.setCells (O := (· = w.heap.size)) (.inl rfl) _ _ (Chg.refl _ _)
    exact bodyPost_ret (results_row_tmp rfl _ _ _ _ _ _ _ rfl hb2 Try.underlying27 rfl (sizeUb'' zub)) rfl ⟨rfl, HA1.out.chg hc fun k hk e => HN.out (e ▸ hk), HG1.out.chg.trans hc (fun k hk e => by omega), HG1.out.row⟩
  · obtain ⟨m, hm⟩ : ∃ m, l.length = m + 1 := ⟨l.length - 1, by omega⟩
    have hlt : m < l.length := by omega
    have e : be = some l[m] := by
      rw [HE.out, List.getLast?_eq_getElem?, hm, Nat.add_sub_cancel, List.getElem?_eq_getElem hlt]
    subst e
    have HU := Lib.hid (fun (w1 : World) (A : Option Addr) (h : RdN w1 D pv A (flatU l)) => h.ub m hlt)
    rw [hm] at HL
    clear h0 HE
    generalize l[m] = u at *
    have hsm : Hid (m ≤ 1000000) := by have := HLL.out; show _ ≤ _; omega
    have hw1 : wrap64 (m : Int) = (m : Int) := IntWalk.wrap64_in _ (by have := hsm.out; omega)
    have hne : ((m : Int) + 1 == 0) = false := by rw [beq_eq_false_iff_ne]; omega
    clear hm hlt
    go_enter Try.func9, Try.ntmps9
    go_wp2_with (first
      | (go_at_call 25; refine (HL.out).mono ?_; rintro e w1 ⟨A, c, rfl, hr, hA1, hG1⟩
         obtain ⟨b, off, rfl, hru⟩ := HU.out _ _ hr
         have HR := Lib.hid hru
         have HA1 := Lib.hid hA1
         have HG1 := Lib.hid (HG.out.trans hG1)
         have HB1 := Lib.hid (HB.out.chg hG1.chg HN.out)
         clear hA1 hG1 hr hru)
      | (with_reducible refine ld_ub rfl _ rfl b (off + m * 7) u rfl HR.out ?_)
      | (with_reducible refine st_ub rfl _ _ rfl w.heap.size 0 u rfl rfl HB1.out.ubHas ?_; intro w2 hw2))
    have hb2 : Blk w2 w.heap.size 27 u.cs.toArray := by rw [hw2.out]; exact HB1.out.ubAll _
    have hc : Chg w1 w2 (· = w.heap.size) := by rw [hw2.out]; exact Chg.setCells (O := (· = w.heap.size)) (.inl rfl) _ _ (Chg.refl _ _)
    exact bodyPost_ret (results_row_tmp rfl _ _ _ _ _ _ _ rfl hb2 Try.underlying27 rfl (sizeUb'' u)) rfl ⟨rfl, HA1.out.chg hc fun k hk e => HN.out (e ▸ hk), HG1.out.chg.trans hc (fun k hk e => by omega), HG1.out.row⟩
end
end Go.Proofs.Ytegcknloemgndaa
