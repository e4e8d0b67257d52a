/- Walks: List. -/
import Derived.Test.YtegcknloemgndaaU8
set_option maxRecDepth 10000
namespace Go.Proofs.Ytegcknloemgndaa
open Go.RowKit

section
variable {w : World} {B n : Nat} {D : Dev} {pv : Value} {s : St}
theorem slot_none1 {k : Nat} {x : Sec} {c : Int} (hx : s.read n k = (x, c)) (h : c ≠ 0) : slotF n s k = none := by
  unfold slotF
  rw [hx]
  exact if_neg fun hc => h hc.1
theorem slot_none2 {k : Nat} {x : Sec} {c : Int} (hx : s.read n k = (x, c)) (h : readB x = false) : slotF n s k = none := by
  unfold slotF
  rw [hx]
  exact if_neg fun hc => by rw [h] at hc; exact absurd hc.2.1 (by simp)
theorem slot_none3 {k : Nat} {x : Sec} {c : Int} (hx : s.read n k = (x, c)) (h : slotU (readV x) ≠ k) : slotF n s k = none := by
  unfold slotF
  rw [hx]
  exact if_neg fun hc => h hc.2.2
theorem slot_some {k : Nat} {x : Sec} {c : Int} (hx : s.read n k = (x, c)) (h : c = 0) (h2 : readB x = true) (h3 : slotU (readV x) = k) : slotF n s k = some (readV x) := by
  unfold slotF
  rw [hx]
  exact if_pos ⟨h, h2, h3⟩
theorem LInv.done {wr wr' : World} {o : Value} {l l' : List Ub} {A : Option Addr} {c : Nat} (h : LInv w wr B n D pv s o l) (ho : o = .slice A l.length c) (hr : Rd wr' wr'.heap.size A (flatU l')) (hc : Chg wr wr' (fun k => o.ownBlock = some k)) :
    RdN wr' D pv A (flatU l') ∧ At wr' B n D pv s ∧ Goes D w pv wr' pv := by
  have hf : ∀ k, o.ownBlock = some k → w.heap.size ≤ k := fun k hk => (h.own.lt k hk).1
  refine ⟨fun hn => ?_, h.at_.chg hc fun k hd hk => ?_, ⟨h.goes.chg.trans hc fun k hk hx => ?_, h.goes.row⟩⟩
  · obtain ⟨b, off, e, hl, hcc⟩ := hr hn
    refine ⟨b, off, e, hl, fun hd => ?_, hcc⟩
    have h1 := h.far b hd
    have h2 := hf b (by rw [ho, e]; rfl)
    omega
  · have := hf k hk
    have := h.far k hd
    omega
  · have := hf k hx
    omega
set_option maxHeartbeats 2000000 in
theorem list_any (h : At w B n D pv s) : Calls Try.prog 25 #[.pointer (some ⟨D.g, 0, none⟩)] w fun e w' =>
    ∃ A c, e = .returned (.slice A (listF n s).length c) ∧ RdN w' D pv A (flatU (listF n s)) ∧ At w' B n D pv (s.counts 4) ∧ Goes D w pv w' pv := by
  have hz : ∀ w, Sem.run Try.prog (zeroValue 27) w = .ok (.agg zub.cs.toArray) w := zeroUb
  have hzs : ∀ w, Sem.run Try.prog (zeroValue 34) w = .ok (.agg zsec.cs.toArray) w := zeroSec
  have HA := Lib.hid h
  clear h
  go_enter Try.func25, Try.ntmps25
  go_wp2_with fail
  go_loopw [3, 9] (fun o i wr => ∃ (k : Nat), k ≤ 4 ∧ i = .int .i64 k ∧ LInv w wr B n D pv (s.counts k) o (slotsF n s k)) (fun _ i _ => 4 - (intOf i).toNat)
  case atStart => exact ⟨0, by omega, rfl, HA.out, Goes.refl _ _ _, World.ownsRow_nil _ _ _ _, HA.out.lt⟩
  case round =>
    obtain ⟨k, hk, rfl, hL⟩ := hrel
    have HL := Lib.hid hL
    clear hL
    by_cases hlt : k < 4
    · have hki : (k : Int) < 4 := by omega
      have HK := Lib.hid hlt
      clear hk hlt HA
      have hR := read_any HL.out.at_ (k : Int)
      rw [counts_read] at hR
      obtain ⟨x, c, hx⟩ : ∃ x c, s.read n k = (x, c) := ⟨_, _, rfl⟩
      rw [hx] at hR
      have HR := Lib.hid hR
      have HX := Lib.hid hx
      clear hR hx
      have HV := Lib.hid (uread_any x)
      have HS := Lib.hid (slot_any (readV x))
      have HSL := Lib.hid (slots_succ n s k)
      by_cases hc : c = 0
      · rcases hb : readB x with _ | _
        · rw [hb] at HV
          rw [slot_none2 HX.out hb] at HSL
          clear HX hb HS
          subst hc
          generalize readV x = v at *
          go_wp2_with (first
            | (go_at_call 53; refine (HR.out).mono ?_; rintro e w1 ⟨rfl, hA1, hG1⟩; have HL1 : Hid (LInv w w1 B n D pv (s.counts (k + 1)) u3 (slotsF n s k)) := HL.out.step hA1 hG1; clear hA1 hG1)
            | (with_reducible refine st_sec rfl _ _ rfl w1.heap.size 0 x rfl rfl (Blk.secHas (s := zsec) (Blk.new w1 _ _)) ?_; intro w2 hw2
               have HL2 := Lib.hid (HL1.out.below (wr' := w2) (by rw [hw2.out]; exact Below.setCells _ (Nat.le_refl _) _ _ ((Below.refl _ _).alloc (Nat.le_refl _) _)))
               have HX2 : Hid (Blk w2 w1.heap.size 34 x.cs.toArray) := (by rw [hw2.out]; exact Blk.secAll (s := zsec) (Blk.new w1 _ _) x))
            | (with_reducible refine ld_sec rfl _ rfl w1.heap.size 0 x rfl HX2.out.secIs ?_)
            | (go_at_call 14; refine (HV.out _).mono ?_; rintro e w3 ⟨rfl, hb3⟩; have HL3 := Lib.hid (HL2.out.below hb3); clear hb3)
            | (with_reducible refine st_ub rfl _ _ rfl w3.heap.size 0 v rfl rfl (Blk.ubHas (u := zub) (Blk.new w3 _ _)) ?_; intro w4 hw4
               have HL4 := Lib.hid (HL3.out.below (wr' := w4) (by rw [hw4.out]; exact Below.setCells _ (Nat.le_refl _) _ _ ((Below.refl _ _).alloc (Nat.le_refl _) _)))
               have HU4 : Hid (Blk w4 w3.heap.size 27 v.cs.toArray) := (by rw [hw4.out]; exact Blk.ubAll (u := zub) (Blk.new w3 _ _) v))
            | (refine wpList_val (by rfl) _ (ex_ldU (.tmp 7) rfl w3.heap.size 0 v rfl HU4.out.ubIs) ?_)
            | (go_at_call 49; refine (HS.out _).mono ?_; rintro e w5 ⟨rfl, hb5⟩; have HL5 := Lib.hid (HL4.out.below hb5); have HU5 := Lib.hid (HU4.out.below hb5 HU4.out.lt); clear hb5))
          go_roundw
          case rel => exact ⟨k + 1, by have := HK.out; omega, by go_num, by rw [HSL.out, Option.toList_none, List.append_nil]; exact HL4.out⟩
          case measure => have := HK.out; simp [intOf]; omega
        · rw [hb] at HV
          by_cases hs : slotU (readV x) = k
          · rw [slot_some HX.out hc hb hs] at HSL
            rw [hs] at HS
            clear HX hb hs
            subst hc
            have HLE := Lib.hid (slots_len n s k)
            have hkk : ((k : Int) == (k : Int)) = true := by simp
            generalize readV x = v at *
            go_wp2_with (first
            | (go_at_call 53; refine (HR.out).mono ?_; rintro e w1 ⟨rfl, hA1, hG1⟩; have HL1 : Hid (LInv w w1 B n D pv (s.counts (k + 1)) u3 (slotsF n s k)) := HL.out.step hA1 hG1; clear hA1 hG1)
            | (with_reducible refine st_sec rfl _ _ rfl w1.heap.size 0 x rfl rfl (Blk.secHas (s := zsec) (Blk.new w1 _ _)) ?_; intro w2 hw2
               have HL2 := Lib.hid (HL1.out.below (wr' := w2) (by rw [hw2.out]; exact Below.setCells _ (Nat.le_refl _) _ _ ((Below.refl _ _).alloc (Nat.le_refl _) _)))
               have HX2 : Hid (Blk w2 w1.heap.size 34 x.cs.toArray) := (by rw [hw2.out]; exact Blk.secAll (s := zsec) (Blk.new w1 _ _) x))
            | (with_reducible refine ld_sec rfl _ rfl w1.heap.size 0 x rfl HX2.out.secIs ?_)
            | (go_at_call 14; refine (HV.out _).mono ?_; rintro e w3 ⟨rfl, hb3⟩; have HL3 := Lib.hid (HL2.out.below hb3); clear hb3)
            | (with_reducible refine st_ub rfl _ _ rfl w3.heap.size 0 v rfl rfl (Blk.ubHas (u := zub) (Blk.new w3 _ _)) ?_; intro w4 hw4
               have HL4 := Lib.hid (HL3.out.below (wr' := w4) (by rw [hw4.out]; exact Below.setCells _ (Nat.le_refl _) _ _ ((Below.refl _ _).alloc (Nat.le_refl _) _)))
               have HU4 : Hid (Blk w4 w3.heap.size 27 v.cs.toArray) := (by rw [hw4.out]; exact Blk.ubAll (u := zub) (Blk.new w3 _ _) v))
            | (refine wpList_val (by rfl) _ (ex_ldU (.tmp 7) rfl w3.heap.size 0 v rfl HU4.out.ubIs) ?_)
            | (go_at_call 49; refine (HS.out _).mono ?_; rintro e w5 ⟨rfl, hb5⟩; have HL5 := Lib.hid (HL4.out.below hb5); have HU5 := Lib.hid (HU4.out.below hb5 HU4.out.lt); clear hb5)
            | (refine wpList_val (by rfl) _ (ex_bslU (.tmp 33) rfl v rfl) ?_)
            | (with_reducible refine ld_ub rfl _ rfl w3.heap.size 0 v rfl HU5.out.ubIs ?_)
            | (at_builtin; go_loud (refine app_ub rfl 32 34 rfl w.heap.size u3 _ _ rfl HL5.out.own v rfl (HL5.out.goes.chg.size) (by have := HLE.out; have := HK.out; omega) ?_); intro v' w' hown' hgr))
            go_roundw
            case rel => exact ⟨k + 1, by have := HK.out; omega, by go_num, by rw [HSL.out]; exact HL5.out.app hown' hgr⟩
            case measure => have := HK.out; simp [intOf]; omega
          · rw [slot_none3 HX.out hs] at HSL
            have hkk : (((slotU (readV x) : Nat) : Int) == (k : Int)) = false := by rw [beq_eq_false_iff_ne]; omega
            clear HX hb hs
            subst hc
            generalize slotU (readV x) = sl at *
            generalize readV x = v at *
            go_wp2_with (first
            | (go_at_call 53; refine (HR.out).mono ?_; rintro e w1 ⟨rfl, hA1, hG1⟩; have HL1 : Hid (LInv w w1 B n D pv (s.counts (k + 1)) u3 (slotsF n s k)) := HL.out.step hA1 hG1; clear hA1 hG1)
            | (with_reducible refine st_sec rfl _ _ rfl w1.heap.size 0 x rfl rfl (Blk.secHas (s := zsec) (Blk.new w1 _ _)) ?_; intro w2 hw2
               have HL2 := Lib.hid (HL1.out.below (wr' := w2) (by rw [hw2.out]; exact Below.setCells _ (Nat.le_refl _) _ _ ((Below.refl _ _).alloc (Nat.le_refl _) _)))
               have HX2 : Hid (Blk w2 w1.heap.size 34 x.cs.toArray) := (by rw [hw2.out]; exact Blk.secAll (s := zsec) (Blk.new w1 _ _) x))
            | (with_reducible refine ld_sec rfl _ rfl w1.heap.size 0 x rfl HX2.out.secIs ?_)
            | (go_at_call 14; refine (HV.out _).mono ?_; rintro e w3 ⟨rfl, hb3⟩; have HL3 := Lib.hid (HL2.out.below hb3); clear hb3)
            | (with_reducible refine st_ub rfl _ _ rfl w3.heap.size 0 v rfl rfl (Blk.ubHas (u := zub) (Blk.new w3 _ _)) ?_; intro w4 hw4
               have HL4 := Lib.hid (HL3.out.below (wr' := w4) (by rw [hw4.out]; exact Below.setCells _ (Nat.le_refl _) _ _ ((Below.refl _ _).alloc (Nat.le_refl _) _)))
               have HU4 : Hid (Blk w4 w3.heap.size 27 v.cs.toArray) := (by rw [hw4.out]; exact Blk.ubAll (u := zub) (Blk.new w3 _ _) v))
            | (refine wpList_val (by rfl) _ (ex_ldU (.tmp 7) rfl w3.heap.size 0 v rfl HU4.out.ubIs) ?_)
            | (go_at_call 49; refine (HS.out _).mono ?_; rintro e w5 ⟨rfl, hb5⟩; have HL5 := Lib.hid (HL4.out.below hb5); have HU5 := Lib.hid (HU4.out.below hb5 HU4.out.lt); clear hb5))
            go_roundw
            case rel => exact ⟨k + 1, by have := HK.out; omega, by go_num, by rw [HSL.out, Option.toList_none, List.append_nil]; exact HL5.out⟩
            case measure => have := HK.out; simp [intOf]; omega
      · have hcc : (c != 0) = true := by simpa using hc
        rw [slot_none1 HX.out hc] at HSL
        clear hc HX
        go_wp2_with (first
          | (go_at_call 53; refine (HR.out).mono ?_; rintro e w1 ⟨rfl, hA1, hG1⟩; have HL1 : Hid (LInv w w1 B n D pv (s.counts (k + 1)) u3 (slotsF n s k)) := HL.out.step hA1 hG1; clear hA1 hG1)
          | (with_reducible refine st_sec rfl _ _ rfl w1.heap.size 0 x rfl rfl (Blk.secHas (s := zsec) (Blk.new w1 _ _)) ?_; intro w2 hw2
             have HL2 := Lib.hid (HL1.out.below (wr' := w2) (by rw [hw2.out]; exact Below.setCells _ (Nat.le_refl _) _ _ ((Below.refl _ _).alloc (Nat.le_refl _) _)))))
        go_roundw
        case rel => exact ⟨k + 1, by have := HK.out; omega, by go_num, by rw [HSL.out, Option.toList_none, List.append_nil]; exact HL2.out⟩
        case measure => have := HK.out; simp [intOf]; omega
    · obtain rfl : k = 4 := by omega
      have HSO := Lib.hid (sort_all HL.out.own (Nat.le_trans (slots_len n s 4) (by omega)))
      have HLN := Lib.hid (fun l' hp hs => sortUs_only (l' := l') (slots_only n s 4) hp hs)
      clear hk hlt
      go_wp2_with (go_at_call 54; refine (HSO.out).mono ?_; rintro e w2 ⟨rfl, A, c, l', hv, hp, hs, hr, hch⟩)
      have hl : l' = listF n s := HLN.out l' hp hs
      subst hl
      obtain ⟨h1, h2, h3⟩ := HL.out.done hv hr hch
      have hlen : (slotsF n s 4).length = (listF n s).length := hp.length_eq.symm
      subst hv
      go_ret
      exact ⟨A, c, by rw [← hlen]; rfl, h1, h2, h3⟩
end
end Go.Proofs.Ytegcknloemgndaa
