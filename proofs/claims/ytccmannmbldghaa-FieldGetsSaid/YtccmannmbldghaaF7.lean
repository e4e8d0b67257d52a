/- Walks: the numbers of bytes, the reference's. -/
import Derived.Test.YtccmannmbldghaaF6
namespace Go.Proofs.Ytccmannmbldghaa
open Go.RowKit

theorem get_any (A A' : Option Addr) (c c' : Nat) (ws : List Int) (b : List UInt8) (w : World) (hs : Rd w w.heap.size A (wds ws)) (ht : Rd w w.heap.size A' (bys b)) (hbc : b.length ≤ c') (hl : ws.length ≤ 17592186044416) :
    Calls Try.prog 10 #[.slice A ws.length c, .slice A' b.length c'] w (GivesU (getF ws b) w) := by
  rcases hb : wideB ws with _ | _
  · exact get_no A A' c c' ws b w hs (by omega) hb
  · by_cases hn : (b.length : Int) = sumF ws
    · exact get_like A A' c c' ws b w hs ht hbc hl hb hn
    · exact get_len A A' c c' ws b w hs (by omega) hb hn

/-- The number of the first k of some bytes. -/
theorem value_first (A : Option Addr) (c k : Nat) (l : List UInt8) (w : World) (hs : Rd w w.heap.size A (bys l)) (hk : k ≤ 8) (hl : k ≤ l.length) :
    Calls Try.prog 25 #[.slice A k c] w fun e w' => e = .returned (.int .u64 (numF (l.take k) : Int)) ∧ Below w.heap.size w w' := by
  have h := value_any A c (l.take k) w (by rw [← bys_take]; exact hs.take k) (by rw [List.length_take]; omega)
  rwa [List.length_take_of_le hl] at h

set_option maxHeartbeats 1000000 in
theorem rget_any (A A' : Option Addr) (c c' : Nat) (ws : List Int) (b0 : List UInt8) (w : World) (hs : Rd w w.heap.size A (wds ws)) (ht : Rd w w.heap.size A' (bys b0)) (hbc : b0.length ≤ c') (hl : ws.length ≤ 17592186044416) (hbl : b0.length ≤ 140737488355328) :
    Calls Try.prog 14 #[.slice A ws.length c, .slice A' b0.length c'] w (GivesU (getF ws b0) w) := by
  obtain ⟨o, ho⟩ : ∃ o, o = getF ws b0 := ⟨_, rfl⟩
  rw [← ho]
  have HO := Lib.hid ho
  clear ho
  go_enter Try.func14, Try.ntmps14
  go_wp2_with fail
  go_loopw [6, 7, 13] (fun v q i wr => ∃ (k p : Nat) (l : List Nat), k ≤ ws.length ∧ i = .int .i64 k ∧ p ≤ b0.length ∧ q = .int .i64 p ∧ Hid (l.length = k) ∧
      Hid (o = (getF (ws.drop k) (b0.drop p)).map fun x => l ++ x) ∧ OwnU wr w.heap.size v l ∧ Below w.heap.size w wr) (fun _ _ i _ => ws.length - (intOf i).toNat)
  case atStart => exact ⟨0, 0, [], by omega, rfl, by omega, rfl, rfl, by show _ = _; rw [HO.out]; simp, ownU_nil w _ (by omega), (Below.refl _ _).alloc (by omega) _⟩
  case round =>
    obtain ⟨k, p, l, hk, rfl, hp, rfl, HL, HR, hown, hb⟩ := hrel
    have hsz := hb.size
    have HV := Lib.hid hown; clear hown
    have HD : Hid ((b0.drop p).length = b0.length - p) := List.length_drop
    by_cases hlt : k < ws.length
    · obtain ⟨b, off, rfl, hbB, hc1⟩ := wd_at hs k (by omega)
      obtain ⟨hc, hf⟩ := bcell hb
      have hy := fun x => getr_yes (l := l) (k := k) (x := x) (o := o) (ws := ws) (r := b0.drop p) hlt
      have hz := fun z => getr_no (l := l) (k := k) (z := z) (o := o) (ws := ws) (r := b0.drop p) hlt
      have hz64 : Hid (∃ y, y = ws[k]) := ⟨_, rfl⟩
      generalize ws[k] = z at *
      by_cases hx1 : z < 1
      · have HZ := Lib.hid (hz z rfl (by omega) HR.out)
        clear hy hz
        go_wp2_with fail
        go_ret2
        exact givesU_none HZ.out rfl hb
      · by_cases hx8 : 8 < z
        · have HZ := Lib.hid (hz z rfl (by omega) HR.out)
          clear hy hz
          go_wp2_with fail
          go_ret2
          exact givesU_none HZ.out rfl hb
        · obtain ⟨x, rfl⟩ := Int.eq_ofNat_of_zero_le (show 0 ≤ z by omega)
          have hy1 : 1 ≤ x := by omega
          have hy8 : x ≤ 8 := by omega
          clear hx1 hx8
          by_cases hxr : p + x ≤ b0.length
          · have HY := Lib.hid (hy x rfl hy1 hy8 (by have := HD.out; omega) HR.out)
            have hr1 : (x : Int) ≤ b0.length - p := by omega
            have hr2 : p < c' := by omega
            have hr3 : p + x ≤ c' := by omega
            have hr4 : (p : Int) + x ≤ c' := by omega
            have hq1 : (x : Int) ≤ 8 := by omega
            have hq2 : (1 : Int) ≤ x := by omega
            clear hy hz HR
            obtain ⟨b', off', rfl, hbB', hc1'⟩ := by_at ht p (by omega)
            clear hc1'
            have hrd := (ht.drop (k := p))
            rw [bys_drop] at hrd
            have Hrd := Lib.hid hrd; clear hrd
            go_wp2_with (first
              | (go_at_call 25; go_loud (refine (value_first _ _ x (b0.drop p) _ ((Hrd.out.below hb).mono hsz) hy8 (by have := HD.out; omega)).mono ?_); rintro e w2 ⟨rfl, hb2⟩; have hsz2 := hb2.size; have HV2 := Lib.hid (own_far HV.out hb2))
              | (at_builtin; go_loud (refine app_one Try.underlying22 infoUn rfl rfl 31 39 rfl w.heap.size u6 _ _ rfl HV2.out _ rfl rfl (by omega) (by omega) (by rw [HL.out]; omega) ?_); intro v' w' hown' hgr))
            go_roundw
            case rel => exact ⟨k + 1, p + x, l ++ [numF ((b0.drop p).take x)], by omega, by go_num, by omega, by go_num, by show _ = _; rw [List.length_append, HL.out]; rfl, (by have h := HY.out; rw [List.drop_drop] at h; exact h), ownU_snoc hown', below_own ((hb.trans (hb2.mono hsz)).alloc (by omega) _) (World.ownsRow.alloc HV2.out _) (Nat.le_refl _) (by simp; omega) hgr⟩
            case measure => simp [intOf]; omega
          · have HZ := Lib.hid (hz x rfl (by have := HD.out; omega) HR.out)
            have hr1 : (b0.length : Int) - p < x := by omega
            clear hy hz hxr
            go_wp2_with fail
            go_ret2
            exact givesU_none HZ.out rfl hb
    · by_cases he : p = b0.length
      · have HZ := Lib.hid (getr_end (by omega) (by have := HD.out; omega) HR.out)
        have he' : ((p : Int) != b0.length) = false := by rw [bne_eq_false_iff_eq]; omega
        clear he
        go_wp2_with fail
        go_ret2
        exact givesU_some HZ.out HV.out rfl hb
      · have HZ := Lib.hid (getr_more (by omega) (by have := HD.out; omega) HR.out)
        have he' : ((p : Int) != b0.length) = true := by rw [bne_iff_ne]; omega
        clear he
        go_wp2_with fail
        go_ret2
        exact givesU_none HZ.out rfl hb
end Go.Proofs.Ytccmannmbldghaa
