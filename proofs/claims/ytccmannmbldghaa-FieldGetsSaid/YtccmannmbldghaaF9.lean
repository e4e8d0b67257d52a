/- Walks: texts side by side, the program's and the reference's. -/
import Derived.Test.YtccmannmbldghaaF8
namespace Go.Proofs.Ytccmannmbldghaa
open Go.RowKit

theorem join_many {ts : List (List UInt8)} (h : 65535 < ts.length) : joinF ts = none := by
  unfold joinF
  rw [if_neg (by omega)]
theorem join_long {ts : List (List UInt8)} {k : Nat} (hk : k < ts.length) (h : 65535 < ts[k].length) : joinF ts = none := by
  unfold joinF
  rw [if_neg]
  intro ⟨_, h2⟩
  have := short_mem h2 _ (List.getElem_mem hk)
  omega
theorem join_yes {ts : List (List UInt8)} (h1 : ts.length ≤ 65535) (h2 : ∀ t ∈ ts, t.length ≤ 65535) : joinF ts = some (leadF ts.length ++ bodyF ts) := by
  unfold joinF
  rw [if_pos ⟨h1, short_mk h2⟩]
theorem body_take {ts : List (List UInt8)} {k : Nat} (hk : k < ts.length) : bodyF (ts.take (k + 1)) = bodyF (ts.take k) ++ leadF ts[k].length ++ ts[k] := by
  rw [List.take_succ_eq_append_getElem hk, body_app]
  simp [bodyF]
theorem byt_get {l : List Tx} {k : Nat} (hk : k < l.length) : (byt l)[k]'(by rw [byt_len]; exact hk) = l[k].2.2 := by simp [byt]

/-- Bytes put behind others: a number in two. -/
theorem add_two (base : Nat) (v : Value) (l : List UInt8) (n : Nat) (w : World) (hown : OwnB w base v l) (hbase : base ≤ w.heap.size) (hl : l.length + 2 ≤ 140737488355328) (hn : n < 18446744073709551616) :
    Calls Try.prog 23 #[v, .int .i64 2, .int .u64 n] w fun e w' => ∃ v', e = .returned v' ∧ OwnB w' base v' (l ++ leadF n) ∧ Below base w w' :=
  add_any base v l 2 n w hown hbase (by omega) hl hn

theorem join_no (A : Option Addr) (c : Nat) (l : List Tx) (w : World) (h : 65535 < l.length) :
    Calls Try.prog 16 #[.slice A l.length c] w (GivesB (joinF (byt l)) w) := by
  have HN := Lib.hid (join_many (ts := byt l) (by rw [byt_len]; exact h))
  have h' : (65535 : Int) < l.length := by omega
  clear h
  go_enter Try.func16, Try.ntmps16
  go_wp2_with fail
  go_ret2
  exact givesB_none HN.out rfl (Below.refl _ _)

set_option maxHeartbeats 1000000 in
theorem join_few (A : Option Addr) (c : Nat) (l : List Tx) (w : World) (hs : Rd w w.heap.size A (txs l)) (hin : TxIn w w.heap.size l) (h0 : l.length ≤ 65535) :
    Calls Try.prog 16 #[.slice A l.length c] w (GivesB (joinF (byt l)) w) := by
  have h : (l.length : Int) ≤ 65535 := by omega
  have HI := Lib.hid hin
  have HL := Lib.hid h0
  obtain ⟨o, ho⟩ : ∃ o, o = joinF (byt l) := ⟨_, rfl⟩
  rw [← ho]
  have HO := Lib.hid ho
  clear hin h0 ho
  go_enter Try.func16, Try.ntmps16
  go_wp2_with fail
  go_loop [4, 15] (fun q i => ∃ (k sz : Nat), k ≤ l.length ∧ i = .int .i64 k ∧ q = .int .i64 (sz : Int) ∧ (sz : Int) ≤ 2 + 65537 * k ∧ Hid (∀ t ∈ byt (l.take k), t.length ≤ 65535)) (fun _ i => l.length - (intOf i).toNat)
  case atStart => exact ⟨0, 2, by omega, rfl, rfl, by omega, by show ∀ t ∈ _, _; simp [byt]⟩
  case round =>
    obtain ⟨k, sz, hk, rfl, rfl, hsz, HS⟩ := hrel
    by_cases hlt : k < l.length
    · obtain ⟨b, off, rfl, hbB, hc1⟩ := tx_at hs k hlt
      have HJ : Hid (65535 < l[k].2.2.length → o = none) := fun h => by
        rw [HO.out]
        exact join_long (k := k) (by rw [byt_len]; exact hlt) (by rw [byt_get hlt]; exact h)
      have HT : Hid (l[k].2.2.length ≤ 65535 → ∀ t ∈ byt (l.take (k + 1)), t.length ≤ 65535) := fun h t ht => by
        rw [List.take_succ_eq_append_getElem hlt, byt_app] at ht
        rcases List.mem_append.1 ht with ht | ht
        · exact HS.out t ht
        · simp [byt] at ht
          rw [ht]
          exact h
      generalize l[k].2.2.length = m at *
      generalize l[k].1 = A1 at *
      generalize l[k].2.1 = c1 at *
      by_cases hl : (m : Int) ≤ 65535
      · have HT2 := Lib.hid (HT.out (by omega))
        clear HT HJ
        go_wp2_with fail
        go_round
        case rel => exact ⟨k + 1, sz + (2 + m), by omega, by go_num, by go_num, by omega, HT2.out⟩
        case measure => simp [intOf]; omega
      · have HJ2 := Lib.hid (HJ.out (by omega))
        clear HT HJ
        have hl' : (65535 : Int) < m := by omega
        go_wp2_with fail
        go_ret2
        exact givesB_none HJ2.out rfl (Below.refl _ _)
    · obtain ⟨cs, hcs, hmk⟩ := make_bytes sz (by have := HL.out; omega)
      have HC := Lib.hid hcs; clear hcs
      have HS' : Hid (∀ t ∈ byt l, t.length ≤ 65535) := by rw [List.take_of_length_le (by omega)] at HS; exact HS
      have HJ : Hid (o = some (leadF l.length ++ bodyF (byt l))) := by
        show _ = _
        rw [HO.out, join_yes (by rw [byt_len]; exact HL.out) HS'.out, byt_len]
      have hsz8 : (sz : Int) ≤ 4295032832 := by omega
      clear HS hsz
      go_wp2_with (go_at_call 23; go_loud (refine (add_two w.heap.size _ [] l.length _ (own_made HC.out (Nat.le_refl _) (by omega)) (by simp) (by simp) (by omega)).mono ?_); rintro e w2 ⟨v2, rfl, hv2, hb2⟩)
      have hsz2 := hb2.size
      clear hmk hsz8
      go_loopw [7, 36] (fun v i wr => ∃ (k : Nat), k ≤ l.length ∧ i = .int .i64 k ∧ OwnB wr w.heap.size v (leadF l.length ++ bodyF ((byt l).take k)) ∧ Below w.heap.size w wr) (fun _ i _ => l.length - (intOf i).toNat)
      case atStart => exact ⟨0, by omega, rfl, by simpa [bodyF] using hv2, ((Below.refl _ _).alloc (Nat.le_refl _) _).trans hb2⟩
      case round =>
        obtain ⟨k, hk, rfl, hown, hb⟩ := hrel
        have hsz := hb.size
        have HV := Lib.hid hown; clear hown
        by_cases hlt : k < l.length
        · obtain ⟨b, off, rfl, hbB, hc1⟩ := tx_at hs k hlt
          obtain ⟨hc, hf⟩ := bcell hb
          obtain ⟨hrt, _⟩ := HI.out _ (List.getElem_mem hlt)
          have HG := Lib.hid (byt_get hlt)
          have hm0 := HS'.out _ (List.getElem_mem (show k < (byt l).length by rw [byt_len]; exact hlt))
          rw [HG.out] at hm0
          have hm : (l[k].2.2.length : Int) ≤ 65535 := by omega
          have HBT := Lib.hid (body_take (ts := byt l) (k := k) (by rw [byt_len]; exact hlt))
          rw [HG.out] at HBT
          have HBL : Hid ((bodyF ((byt l).take k)).length ≤ 65537 * 65535) := by
            have h1 := body_len (ts := (byt l).take k) fun t ht => HS'.out t (List.mem_of_mem_take ht)
            have h2 : ((byt l).take k).length ≤ k := List.length_take_le _ _
            show _ ≤ _
            omega
          have HRT := Lib.hid hrt
          clear hm0 hrt HG
          generalize l[k].2.2 = t at *
          generalize l[k].1 = A1 at *
          generalize l[k].2.1 = c1 at *
          have HM : Hid (t.length ≤ 65535) := by show _ ≤ _; omega
          have HL2 : Hid ((leadF l.length ++ bodyF ((byt l).take k)).length ≤ 4294967297) := by
            have h1 := HBL.out
            show _ ≤ _
            rw [List.length_append, lead_len]
            omega
          have HL3 : Hid ((leadF l.length ++ bodyF ((byt l).take k) ++ leadF t.length).length ≤ 4294967299) := by
            have h1 := HL2.out
            show _ ≤ _
            rw [List.length_append, lead_len]
            omega
          go_wp2_with (first
            | (go_at_call 23; go_loud (refine (add_two w.heap.size _ _ t.length _ HV.out (by omega) (by have := HL2.out; omega) (by have := HM.out; omega)).mono ?_); rintro e w3 ⟨v3, rfl, hv3, hb3⟩; have HV3 := Lib.hid hv3; clear hv3; have hsz3 := hb3.size)
            | (at_builtin; go_loud (refine app_all Try.underlying26 infoByte rfl rfl 45 46 rfl w.heap.size v3 _ _ rfl HV3.out w.heap.size A1 t.length c1 _ rfl (bys_len _) (HRT.out.below (hb.trans hb3)) bys_one (by omega) (by omega) (by have := HL3.out; have := HM.out; omega) ?_); intro v4 w4 hown4 hgr))
          go_roundw
          case rel => exact ⟨k + 1, by omega, by go_num, by rw [HBT.out, ← List.append_assoc, ← List.append_assoc]; exact ownB_app hown4, below_own (hb.trans hb3) HV3.out (Nat.le_refl _) (by omega) hgr⟩
          case measure => simp [intOf]; omega
        · have HJ2 : Hid (o = some (leadF l.length ++ bodyF ((byt l).take k))) := by rw [List.take_of_length_le (by rw [byt_len]; omega)]; exact HJ
          go_wp2_with fail
          go_ret2
          exact givesB_some HJ2.out HV.out rfl hb

theorem join_any (A : Option Addr) (c : Nat) (l : List Tx) (w : World) (hs : Rd w w.heap.size A (txs l)) (hin : TxIn w w.heap.size l) :
    Calls Try.prog 16 #[.slice A l.length c] w (GivesB (joinF (byt l)) w) := by
  by_cases h : l.length ≤ 65535
  · exact join_few A c l w hs hin h
  · exact join_no A c l w (by omega)
end Go.Proofs.Ytccmannmbldghaa
