/- Walks: the texts of bytes, the reference's. -/
import Derived.Test.YtccmannmbldghaaF11
namespace Go.Proofs.Ytccmannmbldghaa
open Go.RowKit

theorem ownT_nil (w : World) (base : Nat) (hb : base ≤ w.heap.size) : OwnT (w.alloc (.cells #[] 26)) base (.slice (some ⟨w.heap.size, 0, none⟩) 0 0) [] := by
  have h := World.ownsRow_lit (base := base) (e := 26) (size := 1) w #[] 0 hb (by simp [maxLen]) rfl
  exact ⟨by simpa [txs] using h, fun t ht => by cases ht⟩
theorem spj_short {o : Option (List (List UInt8))} {l : List (List UInt8)} {j : Nat} {r : List UInt8} (h2 : r.length < 2) (h : o = (splitN (j + 1) r).map fun x => l ++ x) : o = none :=
  spr_short (M := j + 1) (k := 0) (by omega) h2 h
theorem spj_over {o : Option (List (List UInt8))} {l : List (List UInt8)} {j s : Nat} {r r2 : List UInt8} (h2 : 2 ≤ r.length) (hr : r2 = r.drop 2) (hs : s = numF (r.take 2)) (h3 : r2.length < s) (h : o = (splitN (j + 1) r).map fun x => l ++ x) : o = none :=
  spr_over (M := j + 1) (k := 0) (by omega) h2 hr hs h3 h
theorem spj_next {o : Option (List (List UInt8))} {l : List (List UInt8)} {j s : Nat} {r r2 t : List UInt8} (h2 : 2 ≤ r.length) (hr : r2 = r.drop 2) (hs : s = numF (r.take 2)) (h3 : s ≤ r2.length) (ht : t = r2.take s) (h : o = (splitN (j + 1) r).map fun x => l ++ x) :
    o = (splitN j (r2.drop s)).map fun x => (l ++ [t]) ++ x :=
  spr_next (M := j + 1) (k := 0) (by omega) h2 hr hs h3 ht h

theorem text_own {w : World} {base m s : Nat} {v : Value} {t : List UInt8} (ht : t.length = s) (h : w.ownsRow base 5 1 v m (bys [] ++ bys t)) : ∃ A c, v = .slice A s c ∧ Hid (OwnB w base (.slice A t.length c) t) := by
  have hm : m = t.length := by
    have := h.1
    simp [bys] at this
    omega
  subst hm
  have h' : OwnB w base v t := h
  obtain ⟨A, c, rfl, _⟩ := own_rd h'
  exact ⟨A, c, by rw [ht], h'⟩

/-- append([]byte{}, t...): the copy is a slice of the call's own. -/
theorem app_copy {ops : Array Oper} {rest : List Oper} {o : Oper} {a : Act} {w : World} {Q : Exit → Act → World → Prop} (hgd : o.guard = none) (s x : Nat)
    (ho : o.op = .call { callee := .builtin .append, args := #[.tmp s, .tmp x], argTypes := #[26, 26] })
    (hs : a.eval (.tmp s) = .slice (some ⟨w.heap.size, 0, none⟩) 0 0) (B : Nat) (A : Option Addr) (m n c : Nat) (t : List UInt8)
    (hx : a.eval (.tmp x) = .slice A m c) (hm : t.length = n) (hmn : m = n) (hr : Rd (w.alloc (.cells #[] 5)) B A (bys t)) (hn : n ≤ 140737488355328)
    (h : ∀ A' c' w', OwnB w' w.heap.size (.slice A' n c') t → Below w.heap.size w w' → wpList Try.prog ops Q rest (a.put o.dst (.slice A' n c')) w') :
    wpList Try.prog ops Q (o :: rest) a (w.alloc (.cells #[] 5)) := by
  subst hmn
  have hE := ownB_nil w w.heap.size (Nat.le_refl _)
  refine app_all Try.underlying26 infoByte rfl hgd s x ho w.heap.size _ 0 (bys []) hs hE B A m c _ hx (by rw [bys_len, hm]) hr bys_one (by simp) (by omega) (by omega) ?_
  intro v' w' h1 h2
  obtain ⟨A', c', rfl, hX⟩ := text_own hm h1
  exact h A' c' w' (by have h := hX.out; rwa [hm] at h) (below_own ((Below.refl _ _).alloc (Nat.le_refl _) _) hE (Nat.le_refl _) (by simp) h2)

theorem rsplit_no (A : Option Addr) (c : Nat) (b : List UInt8) (w : World) (h : b.length < 2) :
    Calls Try.prog 19 #[.slice A b.length c] w (GivesT (splitF b) w) := by
  have HN := Lib.hid (split_short h)
  have h' : (b.length : Int) < 2 := by omega
  clear h
  go_enter Try.func19, Try.ntmps19
  go_wp2_with fail
  go_ret2
  exact givesT_none HN.out rfl (Below.refl _ _)

set_option maxRecDepth 100000 in
set_option maxHeartbeats 1000000 in
theorem rsplit_like (A : Option Addr) (c : Nat) (b0 : List UInt8) (w : World) (hs : Rd w w.heap.size A (bys b0)) (hc : b0.length ≤ c) (hl : b0.length ≤ 140737488355328) (h2 : 2 ≤ b0.length) :
    Calls Try.prog 19 #[.slice A b0.length c] w (GivesT (splitF b0) w) := by
  obtain ⟨o, ho⟩ : ∃ o, o = splitF b0 := ⟨_, rfl⟩
  rw [← ho]
  rw [split_long h2] at ho
  obtain ⟨M, hM⟩ : ∃ M, M = numF (b0.take 2) := ⟨_, rfl⟩
  have hM5 : M ≤ 65535 := by rw [hM]; exact num2_lt b0
  rw [← hM] at ho
  obtain ⟨b, off, rfl, hbB, hc1⟩ := by_at hs 0 (by omega)
  clear hc1
  have HV0 : Hid (∀ W, Below w.heap.size w W → w.heap.size ≤ W.heap.size → Calls Try.prog 25 #[.slice (some ⟨b, off, none⟩) 2 c] W fun e w' => e = .returned (.int .u64 (M : Int)) ∧ Below W.heap.size W w') := fun W hb hB => by
    rw [hM]
    exact value_first _ _ 2 b0 W ((hs.below hb).mono hB) (by omega) h2
  have HO := Lib.hid ho
  have HM := Lib.hid hM5
  have hMi : (M : Int) ≤ 65535 := by omega
  have h2i : (2 : Int) ≤ b0.length := by omega
  have h2c : 2 ≤ c := by omega
  have h2ci : (2 : Int) ≤ c := by omega
  have HI : Hid (Below w.heap.size w (w.alloc (.cells #[] 26))) := (Below.refl _ _).alloc (Nat.le_refl _) _
  have hli : (b0.length : Int) ≤ 140737488355328 := by omega
  clear ho hM hM5 hl
  go_enter Try.func19, Try.ntmps19
  go_wp2_with (go_at_call 25; go_loud (refine (HV0.out _ HI.out (by simp)).mono ?_); rintro e w1 ⟨rfl, hb1⟩)
  clear HV0
  go_loopw [4, 5, 6] (fun v q i wr => ∃ (j p : Nat) (l : List Tx), i = .int .i64 j ∧ p ≤ b0.length ∧ q = .int .i64 p ∧ Hid (l.length + j ≤ 65535) ∧ (j : Int) ≤ 65535 ∧
      Hid (o = (splitN j (b0.drop p)).map fun x => byt l ++ x) ∧ OwnT wr w.heap.size v l ∧ Below w.heap.size w wr) (fun _ _ i _ => (intOf i).toNat)
  case atStart => exact ⟨M, 2, [], rfl, by omega, rfl, by show _ ≤ _; simpa using HM.out, by omega, by show _ = _; rw [HO.out]; simp [byt], OwnT.below (ownT_nil w _ (Nat.le_refl _)) hb1, HI.out.trans (hb1.mono (by simp))⟩
  case round =>
    clear hb1 HI
    obtain ⟨j, p, l, rfl, hp, rfl, HL, hj5, HR, hown, hb⟩ := hrel
    have hsz := hb.size
    have HV := Lib.hid hown; clear hown
    have HD : Hid ((b0.drop p).length = b0.length - p) := List.length_drop
    rcases j with _ | j
    · by_cases he : p = b0.length
      · have HZ := Lib.hid (spr_end (M := 0) (k := 0) (Nat.le_refl _) (by have := HD.out; omega) HR.out)
        have he' : ((p : Int) != b0.length) = false := by rw [bne_eq_false_iff_eq]; omega
        clear he
        go_wp2_with fail
        go_ret2
        exact givesT_some HZ.out HV.out rfl hb
      · have HZ := Lib.hid (spr_more (M := 0) (k := 0) (Nat.le_refl _) (by have := HD.out; omega) HR.out)
        have he' : ((p : Int) != b0.length) = true := by rw [bne_iff_ne]; omega
        clear he
        go_wp2_with fail
        go_ret2
        exact givesT_none HZ.out rfl hb
    · have hj4 : (j : Int) ≤ 65535 := by omega
      clear hj5
      by_cases h2r : b0.length - p < 2
      · have HZ := Lib.hid (spj_short (by have := HD.out; omega) HR.out)
        have h2r' : (b0.length : Int) - p < 2 := by omega
        clear h2r
        go_wp2_with fail
        go_ret2
        exact givesT_none HZ.out rfl hb
      · have h2r' : (2 : Int) ≤ b0.length - p := by omega
        obtain ⟨s, hs1⟩ : ∃ s, s = numF ((b0.drop p).take 2) := ⟨_, rfl⟩
        obtain ⟨r2, hr2⟩ : ∃ r2, r2 = (b0.drop p).drop 2 := ⟨_, rfl⟩
        have hs5 : s ≤ 65535 := by rw [hs1]; exact num2_lt _
        have hr2l : r2.length = b0.length - p - 2 := by rw [hr2, List.length_drop, List.length_drop]
        have hr2d : r2 = b0.drop (p + 2) := by rw [hr2, List.drop_drop]
        have hrd := hs.drop (k := p)
        rw [bys_drop] at hrd
        have HV1 : Hid (∀ W cp, Below w.heap.size w W → w.heap.size ≤ W.heap.size → Calls Try.prog 25 #[.slice (some ⟨b, off + p, none⟩) 2 cp] W fun e w' => e = .returned (.int .u64 (s : Int)) ∧ Below W.heap.size W w') := fun W cp hb hB => by
          rw [hs1]
          exact value_first _ _ 2 (b0.drop p) W ((hrd.below hb).mono hB) (by omega) (by rw [List.length_drop]; omega)
        have hs5i : (s : Int) ≤ 65535 := by omega
        have HS1 := Lib.hid hs1
        have HR2 := Lib.hid hr2
        have HR2L := Lib.hid hr2l
        have HR2D := Lib.hid hr2d
        have HS5 := Lib.hid hs5
        have hpc : p < c := by omega
        have hpc2 : p + 2 ≤ c := by omega
        have hpc2i : (p : Int) + 2 ≤ c := by omega
        clear hs1 hr2 hs5 h2r hr2l hr2d hrd
        have HLD : Hid (2 ≤ (b0.drop p).length) := by show _ ≤ _; have := HD.out; omega
        by_cases hso : b0.length - p - 2 < s
        · have HZ := Lib.hid (spj_over HLD.out HR2.out HS1.out (by have := HR2L.out; omega) HR.out)
          have hso' : (b0.length : Int) - p - 2 < s := by omega
          clear hso
          go_wp2_with (go_at_call 25; go_loud (refine (HV1.out _ _ hb hsz).mono ?_); rintro e w2 ⟨rfl, hb2⟩)
          go_ret2
          exact givesT_none HZ.out rfl (hb.trans (hb2.mono hsz))
        · have hso' : (s : Int) ≤ (b0.length : Int) - p - 2 := by omega
          have hsr : s ≤ r2.length := by have := HR2L.out; omega
          have hsc : p + 2 + s ≤ c := by omega
          have hsci : (p : Int) + 2 + s ≤ c := by omega
          obtain ⟨t, ht⟩ : ∃ t, t = r2.take s := ⟨_, rfl⟩
          have htl : t.length = s := by rw [ht, List.length_take_of_le hsr]
          have HZ := Lib.hid (spj_next HLD.out HR2.out HS1.out hsr ht HR.out)
          have HP : Hid (r2.drop s = b0.drop (p + (2 + s))) := by
            show _ = _
            rw [HR2D.out, List.drop_drop]
            congr 1
            omega
          have HTR : Hid (Rd w w.heap.size (some ⟨b, off + (p + 2), none⟩) (bys t)) := by
            rw [ht, ← bys_take, HR2D.out, ← bys_drop]
            exact Rd.take hs.drop s
          have HTL := Lib.hid htl
          have HBT : Hid ((bys t).length = p + 2 + s - (p + 2)) := by show _ = _; rw [bys_len, HTL.out]; omega
          rw [HP.out] at HZ
          clear hso ht htl
          by_cases hcs : c = p + 2
          · have hs0 : s = 0 := by have := HR2L.out; omega
            have HT0 : Hid (Rd w w.heap.size (some ⟨b, off, none⟩) (bys t)) := fun h => absurd h (by rw [HBT.out]; omega)
            clear hs0
            subst hcs
            go_wp2_with (first
              | (go_at_call 25; go_loud (refine (HV1.out _ _ hb hsz).mono ?_); rintro e w2 ⟨rfl, hb2⟩; have hsz2 := hb2.size; have HT2 := Lib.hid (OwnT.below HV.out hb2); have HB2 := Lib.hid (hb.trans (hb2.mono hsz)); have HEB := Lib.hid ((Below.refl w2.heap.size w2).alloc (Nat.le_refl _) (.cells #[] 5)))
              | (at_builtin; go_loud (refine app_copy rfl 40 48 rfl rfl w.heap.size _ (p + 2 + s - (p + 2)) s _ t rfl HTL.out (by omega) (HT0.out.below (HB2.out.trans (HEB.out.mono (by omega)))) (by omega) ?_); intro A3 c3 w3 hv3 hb3; have HV3 := Lib.hid hv3; clear hv3; have HT3 := Lib.hid (OwnT.below HT2.out hb3); have HB4 := Lib.hid (HB2.out.trans (hb3.mono (by omega))); have hsz3 := hb3.size)
              | (at_builtin; go_loud (refine app_one Try.underlying38 infoText rfl rfl 39 50 rfl w.heap.size u4 _ _ rfl HT3.out.1 _ rfl rfl (by omega) (by omega) (by have := HL.out; omega) ?_); intro v' w' hown' hgr))
            go_roundw
            case rel => exact ⟨j, p + (2 + s), l ++ [(A3, c3, t)], by go_num, by omega, by go_num, by show _ ≤ _; rw [List.length_append]; have := HL.out; simp; omega, by omega, by rw [byt_app]; exact HZ.out, OwnT.snoc (o := .cells #[.slice A3 s c3] 26) HT3.out (t := (A3, c3, t)) (by have h := HV3.out; rw [← HTL.out] at h; exact own_base h (by omega)) (by rw [show txv (A3, c3, t) = .slice A3 t.length c3 from rfl, HTL.out]; exact hown') hgr, below_own (HB4.out.alloc (by omega) _) (World.ownsRow.alloc HT3.out.1 _) (Nat.le_refl _) (by simp; omega) hgr⟩
            case measure => simp [intOf]
          · go_wp2_with (first
              | (go_at_call 25; go_loud (refine (HV1.out _ _ hb hsz).mono ?_); rintro e w2 ⟨rfl, hb2⟩; have hsz2 := hb2.size; have HT2 := Lib.hid (OwnT.below HV.out hb2); have HB2 := Lib.hid (hb.trans (hb2.mono hsz)); have HEB := Lib.hid ((Below.refl w2.heap.size w2).alloc (Nat.le_refl _) (.cells #[] 5)))
              | (at_builtin; go_loud (refine app_copy rfl 40 48 rfl rfl w.heap.size _ (p + 2 + s - (p + 2)) s _ t rfl HTL.out (by omega) (HTR.out.below (HB2.out.trans (HEB.out.mono (by omega)))) (by omega) ?_); intro A3 c3 w3 hv3 hb3; have HV3 := Lib.hid hv3; clear hv3; have HT3 := Lib.hid (OwnT.below HT2.out hb3); have HB4 := Lib.hid (HB2.out.trans (hb3.mono (by omega))); have hsz3 := hb3.size)
              | (at_builtin; go_loud (refine app_one Try.underlying38 infoText rfl rfl 39 50 rfl w.heap.size u4 _ _ rfl HT3.out.1 _ rfl rfl (by omega) (by omega) (by have := HL.out; omega) ?_); intro v' w' hown' hgr))
            go_roundw
            case rel => exact ⟨j, p + (2 + s), l ++ [(A3, c3, t)], by go_num, by omega, by go_num, by show _ ≤ _; rw [List.length_append]; have := HL.out; simp; omega, by omega, by rw [byt_app]; exact HZ.out, OwnT.snoc (o := .cells #[.slice A3 s c3] 26) HT3.out (t := (A3, c3, t)) (by have h := HV3.out; rw [← HTL.out] at h; exact own_base h (by omega)) (by rw [show txv (A3, c3, t) = .slice A3 t.length c3 from rfl, HTL.out]; exact hown') hgr, below_own (HB4.out.alloc (by omega) _) (World.ownsRow.alloc HT3.out.1 _) (Nat.le_refl _) (by simp; omega) hgr⟩
            case measure => simp [intOf]

theorem split_any (A : Option Addr) (c : Nat) (b0 : List UInt8) (w : World) (hs : Rd w w.heap.size A (bys b0)) (hc : b0.length ≤ c) (hl : b0.length ≤ 140737488355328) :
    Calls Try.prog 18 #[.slice A b0.length c] w (GivesT (splitF b0) w) := by
  by_cases h : b0.length < 2
  · exact split_no A c b0 w h
  · exact split_like A c b0 w hs hc hl (by omega)
theorem rsplit_any (A : Option Addr) (c : Nat) (b0 : List UInt8) (w : World) (hs : Rd w w.heap.size A (bys b0)) (hc : b0.length ≤ c) (hl : b0.length ≤ 140737488355328) :
    Calls Try.prog 19 #[.slice A b0.length c] w (GivesT (splitF b0) w) := by
  by_cases h : b0.length < 2
  · exact rsplit_no A c b0 w h
  · exact rsplit_like A c b0 w hs hc hl (by omega)
end Go.Proofs.Ytccmannmbldghaa
