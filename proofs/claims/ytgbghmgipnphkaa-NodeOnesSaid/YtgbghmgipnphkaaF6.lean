
/- Walks: the numbers of bytes, the program's and the reference's. -/
import Derived.Test.YtgbghmgipnphkaaF4
set_option maxRecDepth 10000
namespace Go.Proofs.Ytgbghmgipnphkaa
open Go.RowKit

/-- Numbers, or none, and an error's number. -/
def GivesU (o : Option (List Nat)) (w : World) (e : Ending) (w' : World) : Prop :=
  ∃ A c, e = .returned (.tuple #[.slice A (o.getD []).length c, .int .i64 (codeF o)]) ∧ Rd w' w'.heap.size A (uns (o.getD [])) ∧ (o.getD []).length ≤ c ∧ Below w.heap.size w w'
theorem givesU_none {o : Option (List Nat)} {w w' : World} {e : Ending} (ho : o = none) (he : e = .returned (.tuple #[.slice none 0 0, .int .i64 21])) (hb : Below w.heap.size w w') : GivesU o w e w' := by
  subst ho
  exact ⟨none, 0, he, Rd.nil, by simp, hb⟩
theorem givesU_some {o : Option (List Nat)} {w w' : World} {e : Ending} {l : List Nat} {base : Nat} {v : Value} (ho : o = some l) (hv : OwnU w' base v l) (he : e = .returned (.tuple #[v, .int .i64 0])) (hb : Below w.heap.size w w') : GivesU o w e w' := by
  subst ho
  obtain ⟨A, c, rfl, h1, h2⟩ := own_rd hv
  exact ⟨A, c, he, h1, h2, hb⟩

theorem make_nums (s : Nat) (hs : s ≤ 17592186044416) : ∃ cs : Array Value, cs.size = s ∧ ∀ W : World, (Instr.makeSlice 61 (.int .i64 0) (.int .i64 (s : Int))).run Try.prog W = .ok (.slice (some ⟨W.heap.size, 0, none⟩) 0 s) (W.alloc (.cells cs 27)) := by
  obtain ⟨i0, hi0, hz0, hz2, hz3⟩ := info_parts infoUn
  refine ⟨madeCells (Value.int .u64 0).cells (s * i0.size), by rw [size_madeCells, hz2, Nat.mul_one], fun W => ?_⟩
  have h := run_make (P := Try.prog) W 61 27 i0 _ Try.underlying61 hi0 hz0 .i64 .i64 0 s (Int.le_refl _) (by omega) (by rw [hz3]; omega) (by omega)
  simpa using h
theorem ownU_made {w : World} {base s : Nat} {cs : Array Value} (hs : cs.size = s) (hb : base ≤ w.heap.size) (hm : s ≤ 17592186044416) : OwnU (w.alloc (.cells cs 27)) base (.slice (some ⟨w.heap.size, 0, none⟩) 0 s) [] :=
  World.ownsRow_made w cs s hb (by simp only [maxLen]; omega) (by rw [hs, Nat.mul_one])

theorem getr_end {ws : List Int} {r : List UInt8} {l : List Nat} {k : Nat} {o : Option (List Nat)} (h1 : ws.length ≤ k) (h2 : r.length = 0) (h : o = (getF (ws.drop k) r).map fun x => l ++ x) : o = some l := by
  rw [List.drop_of_length_le h1, List.eq_nil_of_length_eq_zero h2] at h
  rw [h]
  simp [getF]
theorem getr_more {ws : List Int} {r : List UInt8} {l : List Nat} {k : Nat} {o : Option (List Nat)} (h1 : ws.length ≤ k) (h2 : r.length ≠ 0) (h : o = (getF (ws.drop k) r).map fun x => l ++ x) : o = none := by
  rw [List.drop_of_length_le h1] at h
  rw [h]
  have : r ≠ [] := by rintro rfl; exact h2 rfl
  simp [getF, this]
theorem getr_no {ws : List Int} {r : List UInt8} {l : List Nat} {k : Nat} {z : Int} {o : Option (List Nat)} (h1 : k < ws.length) (hx : ws[k] = z) (hf : ¬ (1 ≤ z ∧ z ≤ 8 ∧ z ≤ r.length)) (h : o = (getF (ws.drop k) r).map fun x => l ++ x) : o = none := by
  rw [get_step h1, if_neg] at h
  · exact h
  · rw [hx]
    exact hf
theorem getr_yes {ws : List Int} {r : List UInt8} {l : List Nat} {k x : Nat} {o : Option (List Nat)} (h1 : k < ws.length) (hx : ws[k] = (x : Int)) (hx1 : 1 ≤ x) (hx8 : x ≤ 8) (hr : x ≤ r.length) (h : o = (getF (ws.drop k) r).map fun x => l ++ x) :
    o = (getF (ws.drop (k + 1)) (r.drop x)).map fun y => (l ++ [numF (r.take x)]) ++ y := by
  rw [get_step h1, if_pos ⟨by omega, by omega, by omega⟩, map_some, hx, Int.toNat_natCast] at h
  rw [h]
  simp
theorem sum_drop {ws : List Int} {k : Nat} (h : k < ws.length) : sumF (ws.drop k) = ws[k] + sumF (ws.drop (k + 1)) := by
  rw [List.drop_eq_getElem_cons h]
  rfl

theorem get_no (A A' : Option Addr) (c c' : Nat) (ws : List Int) (b : List UInt8) (w : World) (hs : Rd w w.heap.size A (wds ws)) (hl : ws.length ≤ 1125899906842624) (h : wideB ws = false) :
    Calls Try.prog 30 #[.slice A ws.length c, .slice A' b.length c'] w (GivesU (getF ws b) w) := by
  have HN := Lib.hid (get_narrow (b := b) h)
  have HT := Lib.hid (total_no A c ws w hs hl h)
  clear h
  go_enter Try.func30, Try.ntmps30
  go_wp2_with (go_at_call 32; refine HT.out.mono ?_; rintro e w1 ⟨rfl, hb⟩)
  go_ret2
  exact givesU_none HN.out rfl hb
theorem get_len (A A' : Option Addr) (c c' : Nat) (ws : List Int) (b : List UInt8) (w : World) (hs : Rd w w.heap.size A (wds ws)) (hl : ws.length ≤ 1125899906842624) (h : wideB ws = true) (hn : (b.length : Int) ≠ sumF ws) :
    Calls Try.prog 30 #[.slice A ws.length c, .slice A' b.length c'] w (GivesU (getF ws b) w) := by
  have HN := Lib.hid (get_unlike hn)
  obtain ⟨s, hs'⟩ := Int.eq_ofNat_of_zero_le (sum_bd (wideB_mem h)).1
  have HT := Lib.hid (total_yes A c ws s w hs hl h hs')
  have hne : ((s : Int) != (b.length : Int)) = true := by rw [bne_iff_ne]; omega
  clear h hn hs'
  go_enter Try.func30, Try.ntmps30
  go_wp2_with (go_at_call 32; refine HT.out.mono ?_; rintro e w1 ⟨rfl, hb⟩)
  go_ret2
  exact givesU_none HN.out rfl hb

set_option maxHeartbeats 1000000 in
theorem get_like (A A' : Option Addr) (c c' : Nat) (ws : List Int) (b0 : List UInt8) (w : World) (hs : Rd w w.heap.size A (wds ws)) (ht : Rd w w.heap.size A' (bys b0)) (hbc : b0.length ≤ c') (hl : ws.length ≤ 17592186044416) (h : wideB ws = true) (hn : (b0.length : Int) = sumF ws) :
    Calls Try.prog 30 #[.slice A ws.length c, .slice A' b0.length c'] w (GivesU (getF ws b0) w) := by
  have hbd := sum_bd (wideB_mem h)
  have HT := Lib.hid (total_yes A c ws b0.length w hs (by omega) h hn.symm)
  have HW := Lib.hid (wideB_mem h)
  obtain ⟨cs, hcs, hmk⟩ := make_nums ws.length hl
  have HC := Lib.hid hcs
  have hbl : b0.length ≤ 140737488355328 := by omega
  have hne : ((b0.length : Int) != (b0.length : Int)) = false := by simp
  obtain ⟨o, ho⟩ : ∃ o, o = getF ws b0 := ⟨_, rfl⟩
  rw [← ho]
  have HO := Lib.hid ho
  have HS := Lib.hid hn
  clear h hn hbd hcs ho
  go_enter Try.func30, Try.ntmps30
  go_wp2_with (go_at_call 32; refine HT.out.mono ?_; rintro e w1 ⟨rfl, hb1⟩)
  have hsz1 := hb1.size
  clear hmk hne
  go_loopw [1, 8, 29] (fun q v i wr => ∃ (k : Nat) (l : List Nat) (r : List UInt8) (A1 : Option Addr) (c1 : Nat), k ≤ ws.length ∧ i = .int .i64 k ∧ Hid (l.length = k) ∧ q = .slice A1 r.length c1 ∧ r.length ≤ c1 ∧ c1 ≤ c' ∧ r.length ≤ b0.length ∧ Rd w w.heap.size A1 (bys r) ∧ Hid ((r.length : Int) = sumF (ws.drop k)) ∧
      Hid (o = (getF (ws.drop k) r).map fun x => l ++ x) ∧ OwnU wr w.heap.size v l ∧ Below w.heap.size w wr) (fun _ _ i _ => ws.length - (intOf i).toNat)
  case atStart => exact ⟨0, [], b0, A', c', by omega, rfl, rfl, rfl, hbc, Nat.le_refl _, Nat.le_refl _, ht, HS.out, by show _ = _; rw [HO.out]; simp, ownU_made HC.out (by omega) (by omega), hb1.alloc (by omega) _⟩
  case round =>
    obtain ⟨k, l, r, A1, c1, hk, rfl, HL, rfl, hrc, hcc, hrb, hr, HSd, HR, hown, hb⟩ := hrel
    have hsz := hb.size
    have HV := Lib.hid hown; clear hown
    by_cases hlt : k < ws.length
    · obtain ⟨b, off, rfl, hbB, hc1⟩ := wd_at hs k (by omega)
      obtain ⟨hc, hf⟩ := bcell hb
      have hwk := HW.out _ (List.getElem_mem hlt)
      have hsd := sum_drop hlt
      have hrest := (sum_bd (ws := ws.drop (k + 1)) fun y hy => HW.out y (List.mem_of_mem_drop hy)).1
      have hy := fun x => getr_yes (l := l) (k := k) (x := x) (o := o) (ws := ws) (r := r) hlt
      generalize ws[k] = z at *
      obtain ⟨x, rfl⟩ := Int.eq_ofNat_of_zero_le (show 0 ≤ z by omega)
      have hx1 : 1 ≤ x := by omega
      have hx8 : x ≤ 8 := by omega
      have hxr : x ≤ r.length := by have := HSd.out; omega
      have hxr' : (x : Int) ≤ r.length := by omega
      have hxc : x ≤ c1 := by omega
      have hxc' : (x : Int) ≤ c1 := by omega
      have HY := Lib.hid (hy x rfl hx1 hx8 hxr HR.out)
      have HS2 : Hid (((r.drop x).length : Int) = sumF (ws.drop (k + 1))) := by show _ = _; rw [List.length_drop]; have := HSd.out; omega
      clear hy HR hwk hsd hrest
      obtain ⟨b', off', rfl, hbB', hc1'⟩ := by_at hr 0 (by omega)
      clear hc1'
      have hrd := hr.drop (k := x)
      rw [bys_drop] at hrd
      have Hrd := Lib.hid hrd; clear hrd
      by_cases hcx : c1 = x
      · subst hcx
        have H0 : Hid (r.length - c1 = 0) := by show _ = _; omega
        go_wp2_with (first
          | (go_at_call 34; refine (number_first _ _ w.heap.size c1 r _ (hr.below hb) hx8 hxr).mono ?_; rintro e w2 ⟨rfl, rfl⟩)
          | (at_builtin; go_loud (refine app_one Try.underlying61 infoUn rfl rfl 33 38 rfl w.heap.size u8 _ _ rfl HV.out _ rfl rfl (by omega) (by omega) (by rw [HL.out]; omega) ?_); intro v' w' hown' hgr))
        go_roundw
        case rel => exact ⟨k + 1, l ++ [numF (r.take c1)], r.drop c1, some ⟨b', off', none⟩, 0, by omega, by go_num, by show _ = _; rw [List.length_append, HL.out]; rfl, by rw [List.length_drop, H0.out], by rw [List.length_drop, H0.out]; exact Nat.le_refl _, by omega, by rw [List.length_drop]; omega, (fun h => absurd h (by rw [bys_len, List.length_drop]; have := H0.out; omega)), HS2.out, HY.out, ownU_snoc hown', below_own (hb.alloc (by omega) _) (World.ownsRow.alloc HV.out _) (Nat.le_refl _) (by simp; omega) hgr⟩
        case measure => simp [intOf]; omega
      · go_wp2_with (first
          | (go_at_call 34; refine (number_first _ _ w.heap.size x r _ (hr.below hb) hx8 hxr).mono ?_; rintro e w2 ⟨rfl, rfl⟩)
          | (at_builtin; go_loud (refine app_one Try.underlying61 infoUn rfl rfl 33 38 rfl w.heap.size u8 _ _ rfl HV.out _ rfl rfl (by omega) (by omega) (by rw [HL.out]; omega) ?_); intro v' w' hown' hgr))
        go_roundw
        case rel => exact ⟨k + 1, l ++ [numF (r.take x)], r.drop x, some ⟨b', off' + x, none⟩, c1 - x, by omega, by go_num, by show _ = _; rw [List.length_append, HL.out]; rfl, by rw [List.length_drop], by rw [List.length_drop]; omega, by omega, by rw [List.length_drop]; omega, Hrd.out, HS2.out, HY.out, ownU_snoc hown', below_own (hb.alloc (by omega) _) (World.ownsRow.alloc HV.out _) (Nat.le_refl _) (by simp; omega) hgr⟩
        case measure => simp [intOf]; omega
    · have HZ := Lib.hid (getr_end (by omega) (by have h1 := HSd.out; have h0 : sumF (ws.drop k) = 0 := (by rw [List.drop_of_length_le (by omega)]; rfl); omega) HR.out)
      go_wp2_with fail
      go_ret2
      exact givesU_some HZ.out HV.out rfl hb
end Go.Proofs.Ytgbghmgipnphkaa
