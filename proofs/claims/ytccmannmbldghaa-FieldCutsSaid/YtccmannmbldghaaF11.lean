/- Walks: the texts of bytes, the program's. -/
import Derived.Test.YtccmannmbldghaaF10
namespace Go.Proofs.Ytccmannmbldghaa
open Go.RowKit

/-- Texts, or none, and an error's number. -/
def GivesT (o : Option (List (List UInt8))) (w : World) (e : Ending) (w' : World) : Prop :=
  ∃ A c, ∃ l : List Tx, e = .returned (.tuple #[.slice A l.length c, .int .i64 (codeF o)]) ∧ byt l = o.getD [] ∧ Rd w' w'.heap.size A (txs l) ∧ TxIn w' w'.heap.size l ∧ l.length ≤ c ∧ Below w.heap.size w w'
theorem givesT_none {o : Option (List (List UInt8))} {w w' : World} {e : Ending} (ho : o = none) (he : e = .returned (.tuple #[.slice none 0 0, .int .i64 21])) (hb : Below w.heap.size w w') : GivesT o w e w' := by
  subst ho
  exact ⟨none, 0, [], he, rfl, Rd.nil, (fun t ht => by cases ht), by simp, hb⟩
theorem givesT_some {o : Option (List (List UInt8))} {w w' : World} {e : Ending} {l : List Tx} {base : Nat} {v : Value} (ho : o = some (byt l)) (hv : OwnT w' base v l) (he : e = .returned (.tuple #[v, .int .i64 0])) (hb : Below w.heap.size w w') : GivesT o w e w' := by
  subst ho
  obtain ⟨A, c, rfl, h1, h2, h3⟩ := hv.rd
  exact ⟨A, c, l, he, rfl, h1, h2, h3, hb⟩

set_option maxHeartbeats 400000 in
theorem lead_get (A : Option Addr) (c c2 B s : Nat) (l r2 : List UInt8) (w : World) (hs : Rd w B A (bys l)) (hl : 2 ≤ l.length) (hc : l.length ≤ c) (hm : l.length ≤ 4611686018427387903) (hr2 : r2 = l.drop 2) (hss : s = numF (l.take 2)) (hc2 : c = c2 + 2) :
    Calls Try.prog 26 #[.slice A l.length c] w fun e w' => ∃ b off, e = .returned (.tuple #[.int .i64 (s : Int), .slice (some ⟨b, off, none⟩) r2.length c2, .bool true]) ∧ b < B ∧ (∃ n, w' = w.drewN n) ∧ Hid (∀ W, Rd W B A (bys l) → Rd W B (some ⟨b, off, none⟩) (bys r2)) := by
  obtain ⟨b, off, rfl, hbB, hc1⟩ := by_at hs 0 (by omega)
  clear hc1
  have h2c : 2 ≤ c := by omega
  have h2c' : (2 : Int) ≤ c := by omega
  have Hn := Lib.hid (num2_lt l)
  have hn : (numF (l.take 2) : Int) ≤ 65535 := by have := Hn.out; omega
  have HS := Lib.hid hss
  have HR := Lib.hid hr2
  have HC : Hid (c - 2 = c2) := by show _ = _; omega
  have HL : Hid (r2.length = l.length - 2) := by show _ = _; rw [hr2, List.length_drop]
  clear hss hr2 hc2
  by_cases h2 : c = 2
  · subst h2
    have H0 : Hid (l.length - 2 = 0) := by show _ = _; omega
    go_enter Try.func26, Try.ntmps26
    go_wp2_with fail
    go_quiet ((go_at_call 22; exact number_quiet _ _ B 2 l w hs (by omega) hl _))
    go_wp2_with fail
    go_ret3
    exact ⟨b, off, ret_val (by rw [HS.out, HL.out, H0.out, ← HC.out]; rfl), hbB, ⟨_, rfl⟩, fun W _ h => absurd h (by rw [bys_len, HL.out, H0.out]; omega)⟩
  · go_enter Try.func26, Try.ntmps26
    go_wp2_with fail
    go_quiet ((go_at_call 22; exact number_quiet _ _ B 2 l w hs (by omega) hl _))
    go_wp2_with fail
    go_ret3
    exact ⟨b, off + 2, ret_val (by rw [HS.out, HL.out, ← HC.out]; rfl), hbB, ⟨_, rfl⟩, fun W h => by rw [HR.out, ← bys_drop]; exact h.drop⟩

theorem clone_first (A : Option Addr) (c s : Nat) (l t : List UInt8) (w : World) (hs : Rd w w.heap.size A (bys l)) (hsl : s ≤ l.length) (hl : s ≤ 140737488355328) (ht : t = l.take s) :
    Calls Try.prog 27 #[.slice A s c] w fun e w' => ∃ A' c', e = .returned (.slice A' s c') ∧ OwnB w' w.heap.size (.slice A' s c') t ∧ Below w.heap.size w w' := by
  subst ht
  have hle := List.length_take_of_le hsl
  have h := clone_any A c (l.take s) w (by rw [← bys_take]; exact hs.take s) (by omega)
  rwa [hle] at h

theorem split_short {b : List UInt8} (h : b.length < 2) : splitF b = none := by
  unfold splitF
  rw [if_pos h]
theorem split_long {b : List UInt8} (h : 2 ≤ b.length) : splitF b = splitN (numF (b.take 2)) (b.drop 2) := by
  unfold splitF
  rw [if_neg (by omega)]
theorem spr_short {o : Option (List (List UInt8))} {l : List (List UInt8)} {M k : Nat} {r : List UInt8} (hk : k < M) (h2 : r.length < 2) (h : o = (splitN (M - k) r).map fun x => l ++ x) : o = none := by
  obtain ⟨j, hj⟩ : ∃ j, M - k = j + 1 := ⟨M - k - 1, by omega⟩
  rw [hj] at h
  simp only [splitN] at h
  rw [if_pos h2] at h
  exact h
theorem spr_over {o : Option (List (List UInt8))} {l : List (List UInt8)} {M k s : Nat} {r r2 : List UInt8} (hk : k < M) (h2 : 2 ≤ r.length) (hr : r2 = r.drop 2) (hs : s = numF (r.take 2)) (h3 : r2.length < s) (h : o = (splitN (M - k) r).map fun x => l ++ x) : o = none := by
  obtain ⟨j, hj⟩ : ∃ j, M - k = j + 1 := ⟨M - k - 1, by omega⟩
  subst hr hs
  rw [hj] at h
  simp only [splitN] at h
  rw [if_neg (by omega), if_pos h3] at h
  exact h
theorem spr_next {o : Option (List (List UInt8))} {l : List (List UInt8)} {M k s : Nat} {r r2 t : List UInt8} (hk : k < M) (h2 : 2 ≤ r.length) (hr : r2 = r.drop 2) (hs : s = numF (r.take 2)) (h3 : s ≤ r2.length) (ht : t = r2.take s) (h : o = (splitN (M - k) r).map fun x => l ++ x) :
    o = (splitN (M - (k + 1)) (r2.drop s)).map fun x => (l ++ [t]) ++ x := by
  have hj : M - k = (M - (k + 1)) + 1 := by omega
  subst hr hs ht
  rw [hj] at h
  simp only [splitN] at h
  rw [if_neg (by omega), if_neg (by omega), map_some] at h
  rw [h]
  simp
theorem spr_end {o : Option (List (List UInt8))} {l : List (List UInt8)} {M k : Nat} {r : List UInt8} (hk : M ≤ k) (h2 : r.length = 0) (h : o = (splitN (M - k) r).map fun x => l ++ x) : o = some l := by
  rw [show M - k = 0 by omega, List.eq_nil_of_length_eq_zero h2] at h
  rw [h]
  simp [splitN]
theorem spr_more {o : Option (List (List UInt8))} {l : List (List UInt8)} {M k : Nat} {r : List UInt8} (hk : M ≤ k) (h2 : 0 < r.length) (h : o = (splitN (M - k) r).map fun x => l ++ x) : o = none := by
  rw [show M - k = 0 by omega] at h
  have : r ≠ [] := by rintro rfl; simp at h2
  rw [h]
  simp [splitN, this]

theorem split_no (A : Option Addr) (c : Nat) (b : List UInt8) (w : World) (h : b.length < 2) :
    Calls Try.prog 18 #[.slice A b.length c] w (GivesT (splitF b) w) := by
  have HN := Lib.hid (split_short h)
  go_enter Try.func18, Try.ntmps18
  go_wp2_with (go_at_call 26; refine (lead_short _ _ b _ h).mono ?_; rintro e w2 ⟨rfl, rfl⟩)
  go_ret2
  exact givesT_none HN.out rfl (Below.refl _ _)

set_option maxHeartbeats 1000000 in
theorem split_like (A : Option Addr) (c : Nat) (b0 : List UInt8) (w : World) (hs : Rd w w.heap.size A (bys b0)) (hc : b0.length ≤ c) (hl : b0.length ≤ 140737488355328) (h2 : 2 ≤ b0.length) :
    Calls Try.prog 18 #[.slice A b0.length c] w (GivesT (splitF b0) w) := by
  obtain ⟨o, ho⟩ : ∃ o, o = splitF b0 := ⟨_, rfl⟩
  rw [← ho]
  rw [split_long h2] at ho
  obtain ⟨M, hM⟩ : ∃ M, M = numF (b0.take 2) := ⟨_, rfl⟩
  obtain ⟨r0, hr0⟩ : ∃ r0, r0 = b0.drop 2 := ⟨_, rfl⟩
  obtain ⟨c0, hc0⟩ : ∃ c0, c = c0 + 2 := ⟨c - 2, by omega⟩
  have hM5 : M ≤ 65535 := by rw [hM]; exact num2_lt b0
  have hL := Lib.hid (lead_get A c c0 w.heap.size M b0 r0 w hs h2 hc (by omega) hr0 hM hc0)
  have hr0c : r0.length ≤ c0 := by rw [hr0, List.length_drop]; omega
  have hr0b : r0.length ≤ b0.length := by rw [hr0, List.length_drop]; omega
  rw [← hM, ← hr0] at ho
  have HO := Lib.hid ho
  have HM := Lib.hid hM5
  have hMi : (M : Int) ≤ 65535 := by omega
  clear ho hM hr0 hc0 hM5
  go_enter Try.func18, Try.ntmps18
  go_wp2_with (go_at_call 26; refine hL.out.mono ?_; rintro e w1 ⟨b1, off1, rfl, hb1, ⟨n1, rfl⟩, HRd1⟩)
  clear hL
  go_loopw [0, 6, 19] (fun q v i wr => ∃ (k : Nat) (l : List Tx) (r : List UInt8) (b : Nat) (off : Nat) (c1 : Nat), k ≤ M ∧ i = .int .i64 k ∧ Hid (l.length = k) ∧ q = .slice (some ⟨b, off, none⟩) r.length c1 ∧ r.length ≤ c1 ∧ r.length ≤ b0.length ∧ Rd w w.heap.size (some ⟨b, off, none⟩) (bys r) ∧ b < w.heap.size ∧
      Hid (o = (splitN (M - k) r).map fun x => byt l ++ x) ∧ OwnT wr w.heap.size v l ∧ Below w.heap.size w wr) (fun _ _ i _ => M - (intOf i).toNat)
  case atStart => exact ⟨0, [], r0, b1, off1, c0, by omega, rfl, rfl, rfl, hr0c, hr0b, HRd1.out _ hs, hb1, by show _ = _; rw [HO.out]; simp [byt], ⟨World.ownsRow_nil _ _ _ _, fun t ht => by cases ht⟩, below_draws (Below.refl _ _) _⟩
  case round =>
    clear hr0c hr0b
    obtain ⟨k, l, r, b, off, c1, hk, rfl, HL, rfl, hrc, hrb, hrd, hbB, HR, hown, hb⟩ := hrel
    have hsz := hb.size
    have HV := Lib.hid hown; clear hown
    by_cases hlt : k < M
    · by_cases h2r : r.length < 2
      · have HZ := Lib.hid (spr_short hlt h2r HR.out)
        go_wp2_with (go_at_call 26; refine (lead_short _ _ r _ h2r).mono ?_; rintro e w2 ⟨rfl, rfl⟩)
        go_ret2
        exact givesT_none HZ.out rfl hb
      · have h2r' : 2 ≤ r.length := by omega
        obtain ⟨s, hs1⟩ : ∃ s, s = numF (r.take 2) := ⟨_, rfl⟩
        obtain ⟨r2, hr2⟩ : ∃ r2, r2 = r.drop 2 := ⟨_, rfl⟩
        obtain ⟨c2, hc2⟩ : ∃ c2, c1 = c2 + 2 := ⟨c1 - 2, by omega⟩
        have hs5 : s ≤ 65535 := by rw [hs1]; exact num2_lt r
        have hL := Lib.hid (fun W => lead_get (some ⟨b, off, none⟩) c1 c2 w.heap.size s r r2 W)
        have hr2c : r2.length ≤ c2 := by rw [hr2, List.length_drop]; omega
        have hr2b : r2.length ≤ b0.length := by rw [hr2, List.length_drop]; omega
        have hs5i : (s : Int) ≤ 65535 := by omega
        have HS1 := Lib.hid hs1
        have HR2 := Lib.hid hr2
        have HC2 := Lib.hid hc2
        have HS5 := Lib.hid hs5
        clear hs1 hr2 hc2 hs5 h2r
        by_cases hso : r2.length < s
        · have HZ := Lib.hid (spr_over hlt h2r' HR2.out HS1.out hso HR.out)
          have hso' : (r2.length : Int) < s := by omega
          clear hso
          go_wp2_with (go_at_call 26; refine (hL.out _ (hrd.below hb) h2r' hrc (by omega) HR2.out HS1.out HC2.out).mono ?_; rintro e w2 ⟨b2, off2, rfl, hb2, ⟨n2, rfl⟩, HRd2⟩)
          go_ret2
          exact givesT_none HZ.out rfl (below_draws hb _)
        · have hso' : (s : Int) ≤ r2.length := by omega
          have hsr : s ≤ r2.length := by omega
          have hsc : s ≤ c2 := by omega
          have hsc' : (s : Int) ≤ c2 := by omega
          obtain ⟨t, ht⟩ : ∃ t, t = r2.take s := ⟨_, rfl⟩
          obtain ⟨r3, hr3⟩ : ∃ r3, r3 = r2.drop s := ⟨_, rfl⟩
          have HZ := Lib.hid (spr_next hlt h2r' HR2.out HS1.out hsr ht HR.out)
          have htl : t.length = s := by rw [ht, List.length_take_of_le hsr]
          have hr3l : r3.length = r2.length - s := by rw [hr3, List.length_drop]
          rw [← hr3] at HZ
          have HT := Lib.hid ht
          have HTL := Lib.hid htl
          have HR3 := Lib.hid hr3
          have HR3L := Lib.hid hr3l
          clear hso ht hr3 htl hr3l
          have HBN : Hid (∀ n, Below wr.heap.size wr (wr.drewN n)) := fun n => below_draws (Below.refl _ _) n
          by_cases hcs : c2 = s
          · subst hcs
            have H0 : Hid (r3.length = 0) := by show _ = _; have := HR3L.out; omega
            go_wp2_with (first
              | (go_at_call 26; refine (hL.out _ (hrd.below hb) h2r' hrc (by omega) HR2.out HS1.out HC2.out).mono ?_; rintro e w2 ⟨b2, off2, rfl, hb2, ⟨n2, rfl⟩, HRd2⟩)
              | (go_at_call 27; go_loud (refine (clone_first _ _ c2 r2 t _ ((HRd2.out (wr.drewN n2) (hrd.below (below_draws hb n2))).mono hsz) hsr (by omega) HT.out).mono ?_); rintro e w3 ⟨A3, c3, rfl, hv3, hb3⟩; have HB3 := Lib.hid ((HBN.out n2).trans hb3); have HT3 := Lib.hid (OwnT.below HV.out HB3.out); have hsz3 := HB3.out.size; have HV3 := Lib.hid hv3; clear hv3)
              | (at_builtin; go_loud (refine app_one Try.underlying38 infoText rfl rfl 35 40 rfl w.heap.size u6 _ _ rfl HT3.out.1 _ rfl rfl (by omega) (by omega) (by have := HL.out; have := HM.out; omega) ?_); intro v' w' hown' hgr))
            go_roundw
            case rel => exact ⟨k + 1, l ++ [(A3, c3, t)], r3, b2, off2, 0, by omega, by go_num, by show _ = _; rw [List.length_append, HL.out]; rfl, by rw [H0.out], by rw [H0.out]; exact Nat.le_refl _, by rw [H0.out]; omega, (fun h => absurd h (by rw [bys_len, H0.out]; omega)), hb2, by rw [byt_app]; exact HZ.out, OwnT.snoc (o := .cells #[.slice A3 c2 c3] 26) HT3.out (t := (A3, c3, t)) (by have h := HV3.out; rw [← HTL.out] at h; exact own_base h hsz) (by rw [show txv (A3, c3, t) = .slice A3 t.length c3 from rfl, HTL.out]; exact hown') hgr, below_own ((hb.trans (HB3.out.mono hsz)).alloc (by omega) _) (World.ownsRow.alloc HT3.out.1 _) (Nat.le_refl _) (by simp; omega) hgr⟩
            case measure => simp [intOf]; omega
          · go_wp2_with (first
              | (go_at_call 26; refine (hL.out _ (hrd.below hb) h2r' hrc (by omega) HR2.out HS1.out HC2.out).mono ?_; rintro e w2 ⟨b2, off2, rfl, hb2, ⟨n2, rfl⟩, HRd2⟩)
              | (go_at_call 27; go_loud (refine (clone_first _ _ s r2 t _ ((HRd2.out (wr.drewN n2) (hrd.below (below_draws hb n2))).mono hsz) hsr (by omega) HT.out).mono ?_); rintro e w3 ⟨A3, c3, rfl, hv3, hb3⟩; have HB3 := Lib.hid ((HBN.out n2).trans hb3); have HT3 := Lib.hid (OwnT.below HV.out HB3.out); have hsz3 := HB3.out.size; have HV3 := Lib.hid hv3; clear hv3)
              | (at_builtin; go_loud (refine app_one Try.underlying38 infoText rfl rfl 35 40 rfl w.heap.size u6 _ _ rfl HT3.out.1 _ rfl rfl (by omega) (by omega) (by have := HL.out; have := HM.out; omega) ?_); intro v' w' hown' hgr))
            go_roundw
            case rel => exact ⟨k + 1, l ++ [(A3, c3, t)], r3, b2, off2 + s, c2 - s, by omega, by go_num, by show _ = _; rw [List.length_append, HL.out]; rfl, by rw [HR3L.out], by rw [HR3L.out]; omega, by rw [HR3L.out]; omega, by rw [HR3.out, ← bys_drop]; exact Rd.drop (HRd2.out w hrd), hb2, by rw [byt_app]; exact HZ.out, OwnT.snoc (o := .cells #[.slice A3 s c3] 26) HT3.out (t := (A3, c3, t)) (by have h := HV3.out; rw [← HTL.out] at h; exact own_base h hsz) (by rw [show txv (A3, c3, t) = .slice A3 t.length c3 from rfl, HTL.out]; exact hown') hgr, below_own ((hb.trans (HB3.out.mono hsz)).alloc (by omega) _) (World.ownsRow.alloc HT3.out.1 _) (Nat.le_refl _) (by simp; omega) hgr⟩
            case measure => simp [intOf]; omega
    · by_cases h0 : r.length = 0
      · have HZ := Lib.hid (spr_end (by omega) h0 HR.out)
        have h0' : (r.length : Int) ≤ 0 := by omega
        clear h0
        go_wp2_with fail
        go_ret2
        exact givesT_some HZ.out HV.out rfl hb
      · have HZ := Lib.hid (spr_more (by omega) (by omega) HR.out)
        have h0' : (0 : Int) < r.length := by omega
        clear h0
        go_wp2_with fail
        go_ret2
        exact givesT_none HZ.out rfl hb
end Go.Proofs.Ytccmannmbldghaa
