
/- Walks: Crash. -/
import Derived.Test.YtegcknloemgndaaV8
set_option maxRecDepth 10000
namespace Go.Proofs.Ytegcknloemgndaa
open Go.RowKit
theorem run_copy_sec {w : World} {gn gs n : Nat} {t t' : TypeId} {l m : List Sec} (hn : Blk w gn t (flat m).toArray) (hs : Blk w gs t' (flat l).toArray) (hm : m.length = n) (hl : l.length = n) (ty : TypeId) :
    (Builtin.copy_ #[44, 44] ty #[.slice (some ⟨gn, 0, none⟩) n n, .slice (some ⟨gs, 0, none⟩) n n]).run Try.prog w = .ok (goInt n) (w.setCells gn 0 (flat l)) := by
  have hsrc : ∀ j v, (flat l)[j]? = some v → w.cell? ((⟨gs, 0, none⟩ : Addr).add j) = some v := fun j v hv => by
    rw [Addr.add_mid, hs.cell, Nat.zero_add]
    have e : (flat l).toArray[j]? = (flat l)[j]? := List.getElem?_toArray ..
    rw [e]
    exact hv
  have hll : (flat l).length = n * 128 := by rw [flat_len, hl]
  have hml : (flat m).toArray.size = n * 128 := by rw [List.size_toArray, flat_len, hm]
  have h1 := run_loadCells_list (P := Try.prog) w ⟨gs, 0, none⟩ (flat l) hsrc
  have ht := hn.there 0 (n * 128) (by omega)
  have h2 := run_storeCells_cells (P := Try.prog) gn 0 (flat l) 0 w (fun j hj => by have := ht j (by omega); simpa using this.1) (fun j hj => by have := ht j (by omega); simpa using this.2) (flat_one l)
  obtain ⟨i, hi, _, hsz, _⟩ := info_parts infoSec
  rw [hll] at h1
  simp only [Nat.add_zero] at h2
  simp [Builtin.copy_, run_underlying Try.underlying44, Builtin.lenOf, Builtin.firstCells, sizeOf, typeInfo, hi, hsz, h1, h2]
theorem copy_sec {ops : Array Oper} {rest : List Oper} {o : Oper} {a : Act} {w : World} {Q : Exit → Act → World → Prop} (hgd : o.guard = none) (x y : Operand)
    (ho : o.op = .call { callee := .builtin .copy, args := #[x, y], argTypes := #[44, 44] }) (gn gs n : Nat) {t t' : TypeId} {l m : List Sec}
    (hx : a.eval x = .slice (some ⟨gn, 0, none⟩) n n) (hy : a.eval y = .slice (some ⟨gs, 0, none⟩) n n) (hn : Blk w gn t (flat m).toArray) (hs : Blk w gs t' (flat l).toArray) (hm : m.length = n) (hl : l.length = n)
    (h : ∀ w', Hid (w' = w.setCells gn 0 (flat l)) → wpList Try.prog ops Q rest (a.put o.dst (goInt n)) w') : wpList Try.prog ops Q (o :: rest) a w := by
  refine wpList_plain hgd fun _ hK => ?_
  unfold Oper.wp execOp
  simp only [ho, resolve, invoke, builtin, Sem.run_bind, Sem.run_pure, Result.andThen_ok, List.map_toArray, List.map_cons, List.map_nil, hx, hy, run_copy_sec hn hs hm hl]
  exact hK _ _ (h _ rfl)
theorem Blk.copied {w : World} {g : Nat} {t : TypeId} {l m : List Sec} (h : Blk w g t (flat m).toArray) (hl : l.length = m.length) : Blk (w.setCells g 0 (flat l)) g t (flat l).toArray := h.setAll _ (by rw [List.size_toArray, flat_len, flat_len, hl])
/-- Bools that a call reads, and that the device doesn't own. -/
def RdK (w : World) (D : Dev) (pv : Value) (A : Option Addr) (ks : List Bool) : Prop := 0 < ks.length → ∃ b off, A = some ⟨b, off, none⟩ ∧ b < w.heap.size ∧ ¬ D.own pv b ∧ ∀ j (h : j < ks.length), w.cell? ⟨b, off + j, none⟩ = some (.bool ks[j])
section
variable {w : World} {B n : Nat} {D : Dev} {pv : Value} {s : St}
theorem At.copy (h : At w B n D pv s) : At (w.setCells D.gn 0 (flat s.st)) B n D pv { s with nw := s.st } := by
  have hc : Chg w (w.setCells D.gn 0 (flat s.st)) (· = D.gn) := Chg.setCells (O := (· = D.gn)) (.inl rfl) _ _ (Chg.refl _ _)
  obtain ⟨h1, h2, h3⟩ := h.own_gn _ rfl
  exact { h with
    dev := h.dev.chg hc (Ne.symm h1)
    st := h.st.chg hc (Ne.symm h2)
    nw := h.nw.copied (by rw [h.ls, h.ln])
    pend := own_chg h.pend hc fun g hg e => h3 (e ▸ hg)
    ln := h.ls }
set_option maxHeartbeats 2000000 in
theorem crash_any (h : At w B n D pv s) (hp : (s.pend.length : Int) ≤ 1000000) (A' : Option Addr) (c' : Nat) (ks : List Bool) (hk : RdK w D pv A' ks) :
    Calls Try.prog 23 #[.pointer (some ⟨D.g, 0, none⟩), .slice A' ks.length c'] w fun e w' => e = .returned (.tuple #[]) ∧ At w' B n D (.slice none 0 0) (s.crash ks) ∧ Goes D w pv w' (.slice none 0 0) := by
  have hz : ∀ w, Sem.run Try.prog (zeroValue 101) w = .ok (.agg (wcs (0, zsec)).toArray) w := zeroW
  obtain ⟨A, c, rfl, _⟩ := own_rd h.pend
  have HA := Lib.hid h
  have HK := Lib.hid hk
  obtain ⟨_, _, h2, _⟩ := h.fields
  clear h hk
  go_enter Try.func23, Try.ntmps23
  go_wp2_with fail
  go_loopw [11] (fun i wr => ∃ (k : Nat), k ≤ s.pend.length ∧ i = .int .i64 k ∧ At wr B n D (.slice A s.pend.length c) { s with st := applyK ks (s.pend.zipIdx.take k) s.st } ∧ Goes D w (.slice A s.pend.length c) wr (.slice A s.pend.length c)) (fun i _ => s.pend.length - (intOf i).toNat)
  case atStart => exact ⟨0, by omega, rfl, HA.out, Goes.refl _ _ _⟩
  case round =>
    clear h2
    obtain ⟨k, hk, rfl, hA, hG⟩ := hrel
    have HA2 := Lib.hid hA
    have HG := Lib.hid hG
    clear hG
    by_cases hlt : k < s.pend.length
    · obtain ⟨gp, cap, heq, _, hgp, _⟩ := own_form hA.pend (by show 0 < s.pend.length; omega)
      simp only [Value.slice.injEq, true_and] at heq
      obtain ⟨rfl, rfl⟩ := heq
      have hR := Lib.hid (own_sec hA.pend k hlt)
      have hok := hA.ok _ (List.getElem_mem hlt)
      have HL := Lib.hid hlt
      have hT := Lib.hid (applyK_snoc ks s.pend k hlt s.st)
      clear hA
      generalize s.pend[k] = p at *
      obtain ⟨a, x⟩ := p
      simp only at hok
      have hki : (k : Int) < s.pend.length := by omega
      have hai : (a : Int) < n := by omega
      have hn : Hid (Blk (wr.alloc (.cells (wcs (0, zsec)).toArray 101)) wr.heap.size 101 (wcs (0, zsec)).toArray) := Blk.new _ _ _
      by_cases hkl : k < ks.length
      · obtain ⟨b, off, rfl, hbl, hbo, hcl⟩ := HK.out (by omega)
        have hcl := hcl k hkl
        have hgt : ks.getD k false = ks[k] := by simp [List.getD, hkl]
        rw [hgt] at hT
        have hkc : ∀ w3, Hid (Hid (w3 = (wr.alloc (.cells (wcs (0, zsec)).toArray 101)).setCells wr.heap.size 0 (wcs (a, x))) → w3.cell? ⟨b, off + k, none⟩ = some (.bool ks[k])) := fun w3 hw => by
          have hc3 : Chg wr w3 (fun _ => False) := by rw [hw.out]; exact chg_new _ _ _ _ _ rfl
          rw [hc3.cell (Nat.lt_of_lt_of_le hbl HG.out.chg.size) id, HG.out.chg.cell hbl hbo]
          exact hcl
        clear hcl hgt
        have hkli : (k : Int) < ks.length := by omega
        generalize ks[k] = bk at *
        cases bk with
        | true =>
          rw [if_pos rfl] at hT
          go_wp2_with (first
            | (with_reducible refine ld_w rfl _ rfl gp (k * 129) (a, x) rfl hR.out ?_)
            | (with_reducible refine st_w rfl _ _ rfl wr.heap.size 0 (a, x) rfl rfl hn.out.wHas ?_; intro w3 hw3; have hcell := (hkc w3).out hw3))
          have hb3 : Hid (Blk w3 wr.heap.size 101 (wcs (a, x)).toArray) := by
            have h := hn.out.wAll (a, x)
            rwa [← hw3.out] at h
          have hc3 : Chg wr w3 (fun _ => False) := by rw [hw3.out]; exact chg_new _ _ _ _ _ rfl
          have hA3 := Lib.hid (HA2.out.chg hc3 fun _ _ h => h)
          have hG3 := Lib.hid (HG.out.chgd hc3 fun _ _ h => h.elim)
          clear hw3 hn hR hc3 hkc
          generalize wr.heap.size = gw at *
          go_wp2_with fail
          refine wp_region_still_tail 9 (by kernel_rfl) (by kernel_rfl) ?_
          simp only [List.take_succ_cons, List.take_zero, List.drop_succ_cons, List.drop_zero]
          change wpStill _ _ w3.drew (fun a' => wpList _ _ _ _ a' w3.drew) _ _
          have hA4 := Lib.hid hA3.out.drew
          have hb4 : Hid (Blk w3.drew gw 101 (wcs (a, x)).toArray) := hb3.out
          have hG4 : Hid (Goes D w (.slice (some ⟨gp, 0, none⟩) s.pend.length c) w3.drew (.slice (some ⟨gp, 0, none⟩) s.pend.length c)) := ⟨hG3.out.chg.drew, hG3.out.row⟩
          clear hA3 hb3 hG3 hcell
          generalize w3.drew = w4 at *
          obtain ⟨h0, _⟩ := hA4.out.fields
          have h1 := hb4.out.wNum
          have hr4 := Lib.hid hb4.out.wSec
          have ht4 := Lib.hid (hA4.out.st.secThere a (by rw [hA4.out.ls]; exact hok))
          iterate 7 still_step
          with_reducible refine still_ld rfl _ rfl gw 1 x rfl hr4.out ?_
          still_step
          refine wpStill_nil ?_
          go_wp2_with (with_reducible refine st_sec rfl _ _ rfl D.gs (a * 128) x rfl rfl ht4.out ?_; intro w5 hw5)
          go_roundw
          case rel =>
            refine ⟨k + 1, by omega, by go_num, ?_, ?_⟩
            · rw [hT.out, hw5.out]
              exact hA4.out.set_st a x hok
            · rw [hw5.out]
              exact hG4.out.set D.gs (a * 128) x.cs (.inl (.inr (.inl rfl)))
          case measure =>
            have := HL.out
            simp [intOf]
            omega
        | false =>
          rw [if_neg (by simp)] at hT
          go_wp2_with (first
            | (with_reducible refine ld_w rfl _ rfl gp (k * 129) (a, x) rfl hR.out ?_)
            | (with_reducible refine st_w rfl _ _ rfl wr.heap.size 0 (a, x) rfl rfl hn.out.wHas ?_; intro w3 hw3; have hcell := (hkc w3).out hw3))
          have hb3 : Hid (Blk w3 wr.heap.size 101 (wcs (a, x)).toArray) := by
            have h := hn.out.wAll (a, x)
            rwa [← hw3.out] at h
          have hc3 : Chg wr w3 (fun _ => False) := by rw [hw3.out]; exact chg_new _ _ _ _ _ rfl
          have hA3 := Lib.hid (HA2.out.chg hc3 fun _ _ h => h)
          have hG3 := Lib.hid (HG.out.chgd hc3 fun _ _ h => h.elim)
          clear hw3 hn hR hc3 hkc
          generalize wr.heap.size = gw at *
          go_roundw
          case rel =>
            refine ⟨k + 1, by omega, by go_num, ?_, hG3.out⟩
            rw [hT.out]
            exact hA3.out
          case measure =>
            have := HL.out
            simp [intOf]
            omega
      · have hgt : ks.getD k false = false := by simp [List.getD, hkl]
        rw [hgt, if_neg (by simp)] at hT
        have hkli : ¬ (k : Int) < ks.length := by omega
        clear hkl
        go_wp2_with (first
          | (with_reducible refine ld_w rfl _ rfl gp (k * 129) (a, x) rfl hR.out ?_)
          | (with_reducible refine st_w rfl _ _ rfl wr.heap.size 0 (a, x) rfl rfl hn.out.wHas ?_; intro w3 hw3))
        have hb3 : Hid (Blk w3 wr.heap.size 101 (wcs (a, x)).toArray) := by
          have h := hn.out.wAll (a, x)
          rwa [← hw3.out] at h
        have hc3 : Chg wr w3 (fun _ => False) := by rw [hw3.out]; exact chg_new _ _ _ _ _ rfl
        have hA3 := Lib.hid (HA2.out.chg hc3 fun _ _ h => h)
        have hG3 := Lib.hid (HG.out.chgd hc3 fun _ _ h => h.elim)
        clear hw3 hn hR hc3
        generalize wr.heap.size = gw at *
        go_roundw
        case rel =>
          refine ⟨k + 1, by omega, by go_num, ?_, hG3.out⟩
          rw [hT.out]
          exact hA3.out
        case measure =>
          have := HL.out
          simp [intOf]
          omega
    · have hkl : s.pend.zipIdx.take k = s.pend.zipIdx := List.take_of_length_le (by simp; omega)
      rw [hkl] at HA2
      clear hA hkl
      go_wp2_with fail
      refine wp_region_still_tail 8 (by kernel_rfl) (by kernel_rfl) ?_
      simp only [List.take_succ_cons, List.take_zero, List.drop_succ_cons, List.drop_zero]
      change wpStill _ _ wr.drew (fun a' => wpList _ _ _ _ a' wr.drew) _ _
      have hA4 := Lib.hid HA2.out.drew
      have hG4 : Hid (Goes D w (.slice A s.pend.length c) wr.drew (.slice A s.pend.length c)) := ⟨HG.out.chg.drew, HG.out.row⟩
      clear HA2 HG
      generalize wr.drew = w4 at *
      obtain ⟨h0, h1, _⟩ := hA4.out.fields
      iterate 8 still_step
      refine wpStill_nil ?_
      with_reducible refine copy_sec rfl _ _ rfl D.gn D.gs n rfl rfl hA4.out.nw hA4.out.st hA4.out.ln hA4.out.ls ?_
      intro w5 hw5
      have hA5 := Lib.hid hA4.out.copy
      have hG5 := Lib.hid (hG4.out.set D.gn 0 (flat (applyK ks s.pend.zipIdx s.st)) (.inl (.inr (.inr (.inl rfl)))))
      rw [← hw5.out] at hA5 hG5
      obtain ⟨_, _, h2, _, h4, h5, hf⟩ := hA5.out.fields
      clear hw5 hA4 hG4 h0 h1
      go_wp2_with fail
      (try simp only [Exit.inBlock, Exit.then]); refine bodyPost_end (results_none rfl _ _ _) rfl ?_
      have hA6 := hA5.out.set_pend (ps := []) (Chg.refl _ _) (World.ownsRow_nil _ _ _ _) fun _ h => by cases h
      have hA7 := hA6.set_left (-1) (by unfold I64; omega)
      have hA8 := hA7.set_dead false
      refine ⟨rfl, hA8, ((hG5.out.chg.setCell (.inl (.inl rfl)) _).setCell (.inl (.inl rfl)) _).setCell (.inl (.inl rfl)) _, fun _ h => by cases h⟩
end
end Go.Proofs.Ytegcknloemgndaa
