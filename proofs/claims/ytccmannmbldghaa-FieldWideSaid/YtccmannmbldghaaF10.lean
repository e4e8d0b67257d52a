/- Walks: texts side by side, the reference's. -/
import Derived.Test.YtccmannmbldghaaF9
namespace Go.Proofs.Ytccmannmbldghaa
open Go.RowKit

theorem rnumber_two (n : Nat) (w : World) (hn : n ≤ 65535) :
    Calls Try.prog 24 #[.int .u64 n, .int .i64 2] w fun e w' => ∃ v, e = .returned (.tuple #[v, .bool true]) ∧ OwnB w' w.heap.size v (leadF n) ∧ Below w.heap.size w w' := by
  have h := rnumber_any 2 n w (by omega) (by omega)
  rwa [fitB_yes (show n < 256 ^ 2 by omega)] at h

theorem rjoin_no (A : Option Addr) (c : Nat) (l : List Tx) (w : World) (h : 65535 < l.length) :
    Calls Try.prog 17 #[.slice A l.length c] w (GivesB (joinF (byt l)) w) := by
  have HN := Lib.hid (join_many (ts := byt l) (by rw [byt_len]; exact h))
  have h' : (65535 : Int) < l.length := by omega
  clear h
  go_enter Try.func17, Try.ntmps17
  go_wp2_with fail
  go_ret2
  exact givesB_none HN.out rfl (Below.refl _ _)

set_option maxHeartbeats 1000000 in
theorem rjoin_few (A : Option Addr) (c : Nat) (l : List Tx) (w : World) (hs : Rd w w.heap.size A (txs l)) (hin : TxIn w w.heap.size l) (h0 : l.length ≤ 65535) :
    Calls Try.prog 17 #[.slice A l.length c] w (GivesB (joinF (byt l)) w) := by
  have h : (l.length : Int) ≤ 65535 := by omega
  have HI := Lib.hid hin
  have HL := Lib.hid h0
  obtain ⟨o, ho⟩ : ∃ o, o = joinF (byt l) := ⟨_, rfl⟩
  rw [← ho]
  have HO := Lib.hid ho
  clear hin h0 ho
  go_enter Try.func17, Try.ntmps17
  go_wp2_with (go_at_call 24; go_loud (refine (rnumber_two l.length _ HL.out).mono ?_); rintro e w1 ⟨v1, rfl, hv1, hb1⟩)
  have hsz1 := hb1.size
  go_loopw [4, 22] (fun v i wr => ∃ (k : Nat), k ≤ l.length ∧ i = .int .i64 k ∧ Hid (∀ t ∈ byt (l.take k), t.length ≤ 65535) ∧ OwnB wr w.heap.size v (leadF l.length ++ bodyF ((byt l).take k)) ∧ Below w.heap.size w wr) (fun _ i _ => l.length - (intOf i).toNat)
  case atStart => exact ⟨0, by omega, rfl, by show ∀ t ∈ _, _; simp [byt], by simpa [bodyF] using hv1, hb1⟩
  case round =>
    clear hv1
    obtain ⟨k, hk, rfl, HS, hown, hb⟩ := hrel
    have hsz := hb.size
    have HV := Lib.hid hown; clear hown
    by_cases hlt : k < l.length
    · obtain ⟨b, off, rfl, hbB, hc1⟩ := tx_at hs k hlt
      obtain ⟨hc, hf⟩ := bcell hb
      obtain ⟨hrt, _⟩ := HI.out _ (List.getElem_mem hlt)
      have HG := Lib.hid (byt_get hlt)
      have HJ : Hid (65535 < l[k].2.2.length → o = none) := fun h => by
        rw [HO.out]
        exact join_long (k := k) (by rw [byt_len]; exact hlt) (by rw [byt_get hlt]; exact h)
      have HT : Hid (l[k].2.2.length ≤ 65535 → ∀ t ∈ byt (l.take (k + 1)), t.length ≤ 65535) := fun h t ht => by
        rw [List.take_succ_eq_append_getElem hlt, byt_app] at ht
        rcases List.mem_append.1 ht with ht | ht
        · exact HS.out t ht
        · simp [byt] at ht
          rw [ht]
          exact h
      have HBT := Lib.hid (body_take (ts := byt l) (k := k) (by rw [byt_len]; exact hlt))
      rw [HG.out] at HBT
      have HBL : Hid ((bodyF ((byt l).take k)).length ≤ 65537 * 65535) := by
        have h1 := body_len (ts := (byt l).take k) fun t ht => HS.out t (by rw [byt_take]; exact ht)
        have h2 : ((byt l).take k).length ≤ k := List.length_take_le _ _
        show _ ≤ _
        omega
      have HRT := Lib.hid hrt
      clear hrt HG
      generalize l[k].2.2 = t at *
      generalize l[k].1 = A1 at *
      generalize l[k].2.1 = c1 at *
      by_cases hl : (t.length : Int) ≤ 65535
      · have HM : Hid (t.length ≤ 65535) := by show _ ≤ _; omega
        have HT2 := Lib.hid (HT.out HM.out)
        have HL2 : Hid ((leadF l.length ++ bodyF ((byt l).take k)).length ≤ 4294967297) := by
          have h1 := HBL.out
          show _ ≤ _
          rw [List.length_append, lead_len]
          omega
        have HL3 : Hid ((leadF l.length ++ bodyF ((byt l).take k) ++ leadF t.length).length ≤ 4294967299) := by
          have h1 := HL2.out
          show _ ≤ _
          rw [List.length_append, lead_len]
          omega
        clear HT HJ
        go_wp2_with (first
          | (go_at_call 24; go_loud (refine (rnumber_two t.length _ HM.out).mono ?_); rintro e w2 ⟨v2, rfl, hv2, hb2⟩; have HV2 := Lib.hid (own_far HV.out hb2); obtain ⟨A2, c2, rfl, hr2, hc2⟩ := own_rd hv2; have hsz2 := hb2.size; clear hc2 hv2)
          | (at_builtin; (refine app_all Try.underlying26 infoByte rfl rfl 36 37 rfl w.heap.size u4 _ _ rfl HV2.out _ A2 _ c2 _ rfl (bys_len _) hr2 bys_one (by omega) (by omega) (by have := HL2.out; rw [lead_len]; omega) ?_); intro v3 w3 hown3 hgr3; have HV3 := Lib.hid (ownB_app hown3); have hb3 := below_own (hb.trans (hb2.mono hsz)) HV2.out (Nat.le_refl _) (by omega) hgr3; have hsz3 := hb3.size; clear hown3)
          | (at_builtin; (refine app_all Try.underlying26 infoByte rfl rfl 39 40 rfl w.heap.size v3 _ _ rfl HV3.out w.heap.size A1 t.length c1 _ rfl (bys_len _) (HRT.out.below hb3) bys_one (by omega) (by omega) (by have := HL3.out; have := HM.out; omega) ?_); intro v4 w4 hown4 hgr))
        go_roundw
        case rel => exact ⟨k + 1, by omega, by go_num, HT2.out, by rw [HBT.out, ← List.append_assoc, ← List.append_assoc]; exact ownB_app hown4, below_own hb3 HV3.out (Nat.le_refl _) (by omega) hgr⟩
        case measure => simp [intOf]; omega
      · have HJ2 := Lib.hid (HJ.out (by omega))
        clear HT HJ
        have hl' : (65535 : Int) < t.length := by omega
        go_wp2_with fail
        go_ret2
        exact givesB_none HJ2.out rfl hb
    · have HS' : Hid (∀ t ∈ byt l, t.length ≤ 65535) := by rw [List.take_of_length_le (by omega)] at HS; exact HS
      have HJ2 : Hid (o = some (leadF l.length ++ bodyF ((byt l).take k))) := by
        rw [List.take_of_length_le (by rw [byt_len]; omega)]
        show _ = _
        rw [HO.out, join_yes (by rw [byt_len]; exact HL.out) HS'.out, byt_len]
      go_wp2_with fail
      go_ret2
      exact givesB_some HJ2.out HV.out rfl hb

theorem rjoin_any (A : Option Addr) (c : Nat) (l : List Tx) (w : World) (hs : Rd w w.heap.size A (txs l)) (hin : TxIn w w.heap.size l) :
    Calls Try.prog 17 #[.slice A l.length c] w (GivesB (joinF (byt l)) w) := by
  by_cases h : l.length ≤ 65535
  · exact rjoin_few A c l w hs hin h
  · exact rjoin_no A c l w (by omega)
end Go.Proofs.Ytccmannmbldghaa
