
/- Walks: Flush. -/
import Derived.Test.YtegcknloemgndaaV7
set_option maxRecDepth 10000
namespace Go.Proofs.Ytegcknloemgndaa
open Go.RowKit
/-- A pending write is loaded, wherever it lies. -/
theorem ld_w {ops : Array Oper} {rest : List Oper} {o : Oper} {a : Act} {w : World} {Q : Exit → Act → World → Prop} (hgd : o.guard = none) (x : Operand) (ho : o.op = .load 101 x)
    (b k : Nat) (p : Nat × Sec) (hx : a.eval x = .pointer (some ⟨b, k, none⟩)) (hr : w.rangeAt b k (wcs p))
    (h : wpList Try.prog ops Q rest (a.put o.dst (.agg (wcs p).toArray)) w) : wpList Try.prog ops Q (o :: rest) a w :=
  wpList_load_mid hgd _ x ho b k hx (wcs p) _ hr Try.underlying101 rfl (sizeW' p) h
/-- A pending write is stored, wherever there is room for it. -/
theorem st_w {ops : Array Oper} {rest : List Oper} {o : Oper} {a : Act} {w : World} {Q : Exit → Act → World → Prop} (hgd : o.guard = none) (x y : Operand) (ho : o.op = .store 101 x y)
    (b k : Nat) (p : Nat × Sec) (hx : a.eval x = .pointer (some ⟨b, k, none⟩)) (hy : a.eval y = .agg (wcs p).toArray) (ht : w.there b k 129)
    (h : ∀ w', Hid (w' = w.setCells b k (wcs p)) → wpList Try.prog ops Q rest (a.put o.dst undef) w') : wpList Try.prog ops Q (o :: rest) a w :=
  wpList_store_mid hgd _ x y ho b k (wcs p).toArray hx hy (by rw [List.size_toArray, wcs_len]; exact ht) (sizeW'' p) (all_one (wcs_one p)) (h _ rfl)
theorem Blk.wHas {w : World} {g : Nat} {t : TypeId} {p : Nat × Sec} (h : Blk w g t (wcs p).toArray) : w.there g 0 129 := h.there 0 129 (by rw [List.size_toArray, wcs_len]; omega)
theorem Blk.wAll {w : World} {g : Nat} {t : TypeId} {p : Nat × Sec} (h : Blk w g t (wcs p).toArray) (q : Nat × Sec) : Blk (w.setCells g 0 (wcs q)) g t (wcs q).toArray := h.setAll _ (by rw [List.size_toArray, wcs_len, wcs_len])
theorem Blk.wSec {w : World} {g : Nat} {t : TypeId} {p : Nat × Sec} (h : Blk w g t (wcs p).toArray) : w.rangeAt g 1 p.2.cs := h.range 1 p.2.cs fun j v hv => by
  have e : (wcs p).toArray[1 + j]? = (wcs p)[1 + j]? := List.getElem?_toArray ..
  rw [e, Nat.add_comm]
  exact hv
theorem Blk.wNum {w : World} {g : Nat} {t : TypeId} {p : Nat × Sec} (h : Blk w g t (wcs p).toArray) : w.cell? ⟨g, 0, none⟩ = some (.int .i64 (p.1 : Int)) := h.cell 0
section
variable {w : World} {B n : Nat} {D : Dev} {pv : Value} {s : St}
theorem Goes.chgd {w0 w w' : World} {O : Nat → Prop} (h : Goes D w0 pv w pv) (c : Chg w w' O) (hO : ∀ k, k < w0.heap.size → O k → D.own pv k) : Goes D w0 pv w' pv := ⟨h.chg.trans c hO, h.row⟩
theorem flush_dead (h : At w B n D pv s) (hd : s.count.refuse.dead = true) :
    Calls Try.prog 48 #[.pointer (some ⟨D.g, 0, none⟩)] w fun e w' => e = .returned (.int .i64 42) ∧ At w' B n D pv s.count.refuse ∧ Goes D w pv w' pv := by
  have HA := Lib.hid h
  clear h
  go_enter Try.func48, Try.ntmps48
  go_wp2_with fail
  refine (count_any HA.out).mono ?_
  rintro e w1 ⟨rfl, hA1, hG1⟩
  have hA := Lib.hid hA1
  have hG := Lib.hid hG1
  clear HA hA1 hG1
  go_wp2_with fail
  refine (refuses_any hA.out).mono ?_
  rintro e w2 ⟨rfl, hA1, hG1⟩
  rw [hd]
  have hA2 := Lib.hid hA1
  have hG2 := Lib.hid (hG.out.trans hG1)
  clear hA hG hA1 hG1 hd
  go_wp2_with fail
  go_ret
  exact ⟨rfl, hA2.out, hG2.out⟩
set_option maxHeartbeats 1000000 in
theorem flush_ok (h : At w B n D pv s) (hp : (s.pend.length : Int) ≤ 1000000) (hd : s.count.refuse.dead = false) :
    Calls Try.prog 48 #[.pointer (some ⟨D.g, 0, none⟩)] w fun e w' => e = .returned (.int .i64 0) ∧ At w' B n D (.slice none 0 0) { s.count.refuse with st := applyF s.pend s.st, pend := [] } ∧ Goes D w pv w' (.slice none 0 0) := by
  have hz : ∀ w, Sem.run Try.prog (zeroValue 101) w = .ok (.agg (wcs (0, zsec)).toArray) w := zeroW
  obtain ⟨A, c, rfl, _⟩ := own_rd h.pend
  have HA := Lib.hid h
  have HS := Lib.hid (refuse_st s.count)
  clear h
  go_enter Try.func48, Try.ntmps48
  go_wp2_with fail
  refine (count_any HA.out).mono ?_
  rintro e w1 ⟨rfl, hA1, hG1⟩
  have hA := Lib.hid hA1
  have hG := Lib.hid hG1
  clear HA hA1 hG1
  go_wp2_with fail
  refine (refuses_any hA.out).mono ?_
  rintro e w2 ⟨rfl, hA1, hG1⟩
  rw [hd]
  have hA2 := Lib.hid hA1
  have hG2 := Lib.hid (hG.out.trans hG1)
  clear hA hG hG1 hd
  obtain ⟨_, _, h2, _⟩ := hA1.fields
  clear hA1
  have HP : Hid (s.count.refuse.pend = s.pend ∧ s.count.refuse.st = s.st) := ⟨HS.out.2.2.1, HS.out.1⟩
  have hA3 : Hid (At w2 B n D (.slice A s.pend.length c) { s.count.refuse with st := s.st, pend := s.pend }) := by
    have h := hA2.out
    rw [show s.count.refuse = { s.count.refuse with st := s.st, pend := s.pend } from by rw [← HP.out.1, ← HP.out.2]] at h
    exact h
  clear hA2
  clear HP HS
  go_wp2_with fail
  go_loopw [14] (fun i wr => ∃ (k : Nat), k ≤ s.pend.length ∧ i = .int .i64 k ∧ At wr B n D (.slice A s.pend.length c) { s.count.refuse with st := applyF (s.pend.take k) s.st, pend := s.pend } ∧ Goes D w (.slice A s.pend.length c) wr (.slice A s.pend.length c)) (fun i _ => s.pend.length - (intOf i).toNat)
  case atStart => exact ⟨0, by omega, rfl, hA3.out, hG2.out⟩
  case round =>
    clear hA3 hG2 h2
    obtain ⟨k, hk, rfl, hA, hG⟩ := hrel
    have HA := Lib.hid hA
    have HG := Lib.hid hG
    clear hG
    by_cases hlt : k < s.pend.length
    · obtain ⟨gp, cap, heq, _, hgp, _⟩ := own_form hA.pend (by show 0 < s.pend.length; omega)
      simp only [Value.slice.injEq, true_and] at heq
      obtain ⟨rfl, rfl⟩ := heq
      have hR := Lib.hid (own_sec hA.pend k hlt)
      have hok := hA.ok _ (List.getElem_mem hlt)
      have HL := Lib.hid hlt
      have hT := Lib.hid (applyF_snoc s.pend k hlt s.st)
      clear hA
      generalize s.pend[k] = p at *
      obtain ⟨a, x⟩ := p
      simp only at hok
      have hki : (k : Int) < s.pend.length := by omega
      have hai : (a : Int) < n := by omega
      have hn : Hid (Blk (wr.alloc (.cells (wcs (0, zsec)).toArray 101)) wr.heap.size 101 (wcs (0, zsec)).toArray) := Blk.new _ _ _
      go_wp2_with (first
        | (with_reducible refine ld_w rfl _ rfl gp (k * 129) (a, x) rfl hR.out ?_)
        | (with_reducible refine st_w rfl _ _ rfl wr.heap.size 0 (a, x) rfl rfl hn.out.wHas ?_; intro w3 hw3))
      have hb3 : Hid (Blk w3 wr.heap.size 101 (wcs (a, x)).toArray) := by
        have h := hn.out.wAll (a, x)
        rwa [← hw3.out] at h
      have hc3 : Chg wr w3 (fun _ => False) := by rw [hw3.out]; exact chg_new _ _ _ _ _ rfl
      have hA3 := Lib.hid (HA.out.chg hc3 fun _ _ h => h)
      have hG3 := Lib.hid (HG.out.chgd hc3 fun _ _ h => h.elim)
      have hfar := Lib.hid HA.out.new_far
      clear hw3 hn hR hc3
      generalize wr.heap.size = gw at *
      go_wp2_with fail
      refine wp_region_still_tail 9 (by kernel_rfl) (by kernel_rfl) ?_
      simp only [List.take_succ_cons, List.take_zero, List.drop_succ_cons, List.drop_zero]
      change wpStill _ _ w3.drew (fun a' => wpList _ _ _ _ a' w3.drew) _ _
      have hA4 := Lib.hid hA3.out.drew
      have hb4 : Hid (Blk w3.drew gw 101 (wcs (a, x)).toArray) := hb3.out
      have hG4 : Hid (Goes D w (.slice (some ⟨gp, 0, none⟩) s.pend.length c) w3.drew (.slice (some ⟨gp, 0, none⟩) s.pend.length c)) := ⟨hG3.out.chg.drew, hG3.out.row⟩
      clear hA3 hb3 hG3
      generalize w3.drew = w4 at *
      obtain ⟨h0, _⟩ := hA4.out.fields
      have h1 := hb4.out.wNum
      have hr4 := Lib.hid hb4.out.wSec
      have ht4 := Lib.hid (hA4.out.st.secThere a (by rw [hA4.out.ls]; exact hok))
      iterate 7 still_step
      with_reducible refine still_ld rfl _ rfl gw 1 x rfl hr4.out ?_
      still_step
      refine wpStill_nil ?_
      go_wp2_with (with_reducible refine st_sec rfl _ _ rfl D.gs (a * 128) x rfl rfl ht4.out ?_; intro w5 hw5)
      go_roundw
      case rel =>
        refine ⟨k + 1, by omega, by go_num, ?_, ?_⟩
        · rw [hT.out, hw5.out]
          exact hA4.out.set_st a x hok
        · rw [hw5.out]
          exact hG4.out.set D.gs (a * 128) x.cs (.inl (.inr (.inl rfl)))
      case measure =>
        have := HL.out
        simp [intOf]
        omega
    · have hkl : s.pend.take k = s.pend := List.take_of_length_le (by omega)
      rw [hkl] at HA
      obtain ⟨_, _, h2, _, _, _, hf⟩ := hA.fields
      clear hA hkl
      go_wp2_with fail
      go_ret
      refine ⟨rfl, ?_, ?_⟩
      · exact HA.out.set_pend (ps := []) (Chg.refl _ _) (World.ownsRow_nil _ _ _ _) fun _ h => by cases h
      · exact ⟨HG.out.chg.setCell (.inl (.inl rfl)) _, fun _ h => by cases h⟩
theorem flush_any (h : At w B n D pv s) (hp : s.pend.length ≤ 1000000) :
    Calls Try.prog 48 #[.pointer (some ⟨D.g, 0, none⟩)] w fun e w' => ∃ pv', e = .returned (.int .i64 s.flush.2) ∧ At w' B n D pv' s.flush.1 ∧ Goes D w pv w' pv' := by
  unfold St.flush
  by_cases h2 : s.count.refuse.dead = true
  · rw [if_pos h2]
    exact (flush_dead h h2).mono fun e w' ⟨a, b, c⟩ => ⟨pv, a, b, c⟩
  · rw [if_neg h2]
    exact (flush_ok h (by omega) (by simpa using h2)).mono fun e w' ⟨a, b, c⟩ => ⟨_, a, b, c⟩
end
end Go.Proofs.Ytegcknloemgndaa
