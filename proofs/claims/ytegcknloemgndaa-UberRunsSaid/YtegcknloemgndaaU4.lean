/- Walks: an uber's bytes, the program's. -/
import Derived.Test.YtegcknloemgndaaU3
import Derived.Deep.RegionHeld3
set_option maxRecDepth 10000
namespace Go.Proofs.Ytegcknloemgndaa
open Go.RowKit

section
variable (u : Ub)
theorem two_new (w : World) (s : Sec) : Blk ((w.alloc (.cells u.cs.toArray 27)).alloc (.cells s.cs.toArray 34)) w.heap.size 27 u.cs.toArray ∧
    Blk ((w.alloc (.cells u.cs.toArray 27)).alloc (.cells s.cs.toArray 34)) (w.heap.size + 1) 34 s.cs.toArray := by
  have h2 := Blk.new (w.alloc (.cells u.cs.toArray 27)) 34 s.cs.toArray
  rw [show (w.alloc (.cells u.cs.toArray 27)).heap.size = w.heap.size + 1 by simp] at h2
  exact ⟨(ub_new w u).below ((Below.refl (w.alloc (.cells u.cs.toArray 27)).heap.size _).alloc (Nat.le_refl _) _) (by simp), h2⟩
/-- Two blocks of the call's own, and all that lay there. -/
structure Base (w w' : World) (s : Sec) : Prop where
  ub : Blk w' w.heap.size 27 u.cs.toArray
  sec : Blk w' (w.heap.size + 1) 34 s.cs.toArray
  below : Below w.heap.size w w'
  size : w.heap.size + 2 ≤ w'.heap.size
theorem Base.next {w w' w'' : World} {s : Sec} (h : Base u w w' s) (hb : Below w'.heap.size w' w'') : Base u w w'' s :=
  ⟨h.ub.below hb h.ub.lt, h.sec.below hb h.sec.lt, h.below.trans (hb.mono h.below.size), Nat.le_trans h.size hb.size⟩
theorem base_new (w : World) (s : Sec) : Base u w ((w.alloc (.cells u.cs.toArray 27)).alloc (.cells s.cs.toArray 34)) s :=
  ⟨(two_new u w s).1, (two_new u w s).2, ((Below.refl w.heap.size w).alloc (Nat.le_refl _) _).alloc (by simp) _, by simp⟩
theorem ubytes_no (h : rightU u = false) (w : World) : Calls Try.prog 12 #[.agg u.cs.toArray] w fun e w' => e = .returned (.tuple #[.agg zsec.cs.toArray, .int .i64 61]) ∧ Below w.heap.size w w' := by
  have hz : ∀ w, Sem.run Try.prog (zeroValue 34) w = .ok (.agg zsec.cs.toArray) w := zeroSec
  have hbd : ∀ w, (Instr.build 34 #[]).run Try.prog w = .ok (.agg zsec.cs.toArray) w := buildZ
  have right := uright_any u
  rw [h] at right
  have HR := Lib.hid right
  clear right h
  have HB := Lib.hid (base_new u w zsec)
  go_enter Try.func12, Try.ntmps12
  go_wp2_with (first
    | (with_reducible refine ld_ub rfl _ rfl w.heap.size 0 u rfl HB.out.ub.ubIs ?_)
    | (go_at_call 16; refine (HR.out _).mono ?_; rintro e w1 ⟨rfl, hb1⟩; have HB1 := Lib.hid (HB.out.next u hb1); clear hb1)
    | (with_reducible refine st_sec rfl _ _ rfl (w.heap.size + 1) 0 zsec rfl rfl HB1.out.sec.secHas ?_; intro w2 hw2))
  have hb2 : Blk w2 (w.heap.size + 1) 34 zsec.cs.toArray := by rw [hw2.out]; exact HB1.out.sec.secAll zsec
  exact bodyPost_ret (results_row_tmp rfl _ _ _ _ _ _ _ rfl hb2 Try.underlying34 rfl (sizeSec'' zsec)) rfl ⟨rfl, by rw [hw2.out]; exact Below.setCells _ (by omega) _ _ HB1.out.below⟩
/-- Numbers of the sizes, as the program lays them out. -/
abbrev numz (a b : Int) : Array Value := #[.int .u64 (IntKind.u64.wrap a), .int .u64 (IntKind.u64.wrap b)]
theorem numz_eq {a b : Int} (ha : 0 ≤ a ∧ a < 4294967296) (hb : 0 ≤ b ∧ b < 4294967296) : (numz a b).toList = uns [a.toNat, b.toNat] := by
  have h1 : IntKind.u64.wrap a = (a.toNat : Int) := by simp [IntKind.wrap, IntKind.signed, IntKind.bits]; omega
  have h2 : IntKind.u64.wrap b = (b.toNat : Int) := by simp [IntKind.wrap, IntKind.signed, IntKind.bits]; omega
  simp [uns, h1, h2]
theorem pbytes_ok (h : IsPtr u.at_ u.birth u.sum) (hr : rightF u.at_ u.birth u.sum = true) (w : World) : Calls Try.prog 36 #[ptv u.at_ u.birth u.sum] w fun e w' =>
    ∃ A2 c2, e = .returned (.tuple #[.slice A2 16 c2, .int .i64 0]) ∧ Rd w' w'.heap.size A2 (bys (ptrBytes u.at_.toNat u.birth u.sum)) ∧ 16 ≤ c2 ∧ Below w.heap.size w w' := by
  refine (bytes_any h w).mono ?_
  rintro e w' ⟨A2, c2, he, h1, h2, h3⟩
  have e1 : bsF u.at_ u.birth u.sum = ptrBytes u.at_.toNat u.birth u.sum := by unfold bsF; rw [if_pos hr]; simp
  have e2 : bsC u.at_ u.birth u.sum = 0 := if_pos hr
  rw [e1, e2, ptrBytes_len] at he
  rw [e1] at h1 h2
  rw [ptrBytes_len] at h2
  exact ⟨A2, c2, he, h1, h2, h3⟩
theorem isPtr (u : Ub) : IsPtr u.at_ u.birth u.sum := ⟨u.hi.1.1, u.hi.1.2, by omega, by have := u.hu; omega, by omega, by have := u.hu; omega⟩
theorem ok_right {u : Ub} (h : okU u) : rightF u.at_ u.birth u.sum = true := by
  have := can_yes (a := u.at_) (b := u.birth) (by have := h.2.2.1; omega)
  simp [rightF, this]
theorem spl_front : spl ((((magicL ++ (bytesF 8 u.txg ++ bytesF 8 u.stamp)) ++ ptrBytes u.at_.toNat u.birth u.sum)) ++ List.replicate 92 0) 36 (bytesF 4 u.len.toNat ++ bytesF 4 u.secs.toNat) = headU u ++ List.replicate 4 0 := by
  rw [spl_end (j := 84) (by simp [magicL, bytesF_len, ptrBytes_len]) (by simp [bytesF_len]), headU, frontU, show (84 : Nat) = 80 + 4 from rfl, ← List.replicate_append_replicate]
  simp only [List.append_assoc]
set_option maxHeartbeats 2000000 in
theorem ubytes_yes (h : rightU u = true) (w : World) : Calls Try.prog 12 #[.agg u.cs.toArray] w fun e w' => e = .returned (.tuple #[.agg (secU u).cs.toArray, .int .i64 0]) ∧ Below w.heap.size w w' := by
  have hz : ∀ w, Sem.run Try.prog (zeroValue 34) w = .ok (.agg zsec.cs.toArray) w := zeroSec
  have right := uright_any u
  rw [h] at right
  have HR := Lib.hid right
  have hok := ok_of h
  have HN := Lib.hid (numz_eq (a := u.len) (b := u.secs) (by have := hok.2.2.2.1; omega) (by have := hok.2.2.2.2; omega))
  have hb := u.hu
  have HP1 := Lib.hid (put_ok (put2 (k := 8) (a := u.txg) (b := u.stamp) (by omega) (by omega) (by omega)) (k := 16) (by simp [bytesF_len]) (n := 2) rfl (m := 2) rfl (by intro x hx; simp only [List.mem_cons, List.not_mem_nil, or_false] at hx; omega) (by simp))
  have HP2 := Lib.hid (put_ok (put2 (k := 4) (a := u.len.toNat) (b := u.secs.toNat) (by omega) (by have := hok.2.2.2.1; omega) (by have := hok.2.2.2.2; omega)) (k := 8) (by simp [bytesF_len]) (n := 2) rfl (m := 2) rfl (by intro x hx; simp only [List.mem_cons, List.not_mem_nil, or_false] at hx; have := hok.2.2.2.1; have := hok.2.2.2.2; omega) (by simp))
  have HP3 := Lib.hid (put_ok (put1 (k := 4) (a := moreF 0 (headU u)) (by omega) (moreU_lt _)) (k := 4) (by simp [bytesF_len]) (n := 1) rfl (m := 1) rfl (by intro x hx; simp only [List.mem_cons, List.not_mem_nil, or_false] at hx; have := moreU_lt (headU u); omega) (by simp))
  have HQ := Lib.hid (pbytes_ok u (isPtr u) (ok_right hok))
  have HM := Lib.hid (moreU_lt (headU u))
  have HW1 := Lib.hid stw_any
  have HW2 := Lib.hid szw_any
  have HB := Lib.hid (base_new u w zsec)
  have HF := Lib.hid (fun (w' : World) (h : Base u w w' zsec) => h.ub.ubF)
  clear right h hok hb
  go_enter Try.func12, Try.ntmps12
  go_wp2_with (first
    | (with_reducible refine ld_ub rfl _ rfl w.heap.size 0 u rfl HB.out.ub.ubIs ?_)
    | (go_at_call 16; refine (HR.out _).mono ?_; rintro e w1 ⟨rfl, hb1⟩; have HB1 := Lib.hid (HB.out.next u hb1); clear hb1))
  obtain ⟨c0, c1, _⟩ := HF.out _ HB1.out
  go_region_held3 (fun w' => w'.cell? ⟨w.heap.size, 0, none⟩ = some (.int .u64 (u.txg : Int)) ∧ w'.cell? ⟨w.heap.size, 1, none⟩ = some (.int .u64 (u.stamp : Int)))
    (first
      | go_keep
      | (go_split_ands
         refine ⟨?_, ?_⟩
         · (refine Eq.trans (hb3.cell (by have := HB1.out.size; simp; omega)) ?_; assumption)
         · (refine Eq.trans (hb3.cell (by have := HB1.out.size; simp; omega)) ?_; assumption)))
    (first
      | (go_at_call 35; refine (HW1.out _).mono ?_; rintro e w2 ⟨rfl, rfl⟩)
      | (go_at_call 34; refine (HP1.out _ _ _ _ _ (by first | exact rd_first _ _ _ _ | exact rd_second _ _ _ _) (by first | exact rd_first _ _ _ _ | exact rd_second _ _ _ _)).mono ?_; rintro e w3 ⟨A3, k3, rfl, hA3, hk3, hb3⟩))
  all_goals
    go_split_ands
    have HB3 := Lib.hid (HB1.out.next u (below_two (Below.refl _ _) hb3))
    have HA3 := Lib.hid hA3
    clear HP1 HW1 HB HR HB1 hA3 hb3 hk3
    obtain ⟨c0, c1, c2, c3, c4, c5, c6⟩ := HF.out _ HB3.out
    go_wp2_with (first
      | (with_reducible refine ld_ptrU rfl _ rfl w.heap.size _ u rfl HB3.out.ub ?_)
      | (go_at_call 36; refine (HQ.out _).mono ?_; rintro e w4 ⟨A4, k4, rfl, hA4, hk4, hb4⟩))
    have HB4 := Lib.hid (HB3.out.next u hb4)
    have HA3' := Lib.hid ((HA3.out.below hb4).mono hb4.size)
    have HA4 := Lib.hid hA4
    clear HA3 HB3 hA4 hb4 hk4 HQ c0 c1 c2 c3 c4 c5 c6
    obtain ⟨_, _, _, _, _, c5, c6⟩ := HF.out _ HB4.out
    go_region_held3 (fun w' => w'.cell? ⟨w.heap.size, 5, none⟩ = some (.int .i64 u.len) ∧ w'.cell? ⟨w.heap.size, 6, none⟩ = some (.int .i64 u.secs))
      (first
        | go_keep
        | (go_split_ands
           refine ⟨?_, ?_⟩
           · (refine Eq.trans (hb5.cell (by have := HB4.out.size; simp; omega)) ?_; assumption)
           · (refine Eq.trans (hb5.cell (by have := HB4.out.size; simp; omega)) ?_; assumption)))
      (first
        | (go_at_call 37; refine (HW2.out _).mono ?_; rintro e w2 ⟨rfl, rfl⟩)
        | (go_at_call 34; refine (HP2.out _ _ _ _ _ (by first | exact rd_first _ _ _ _ | exact rd_second _ _ _ _) (by first | exact HN.out ▸ rd_first _ _ _ _ | exact HN.out ▸ rd_second _ _ _ _)).mono ?_; rintro e w5 ⟨A5, k5, rfl, hA5, hk5, hb5⟩))
    all_goals
      go_split_ands
      have HB5 := Lib.hid (HB4.out.next u (below_two (Below.refl _ _) hb5))
      have hb45 : Below w4.heap.size w4 w5 := below_two (Below.refl _ _) hb5
      have HA3 := Lib.hid ((HA3'.out.below hb45).mono hb45.size)
      have HA4' := Lib.hid ((HA4.out.below hb45).mono hb45.size)
      have HA5 := Lib.hid hA5
      clear HP2 HW2 HB4 hA5 hb5 hb45 HA4 HA3' hk5 HF HN c5 c6
      have HZ := Lib.hid (show Blk (w5.alloc (.cells zsec.cs.toArray 34)) w5.heap.size 34 (bys (List.replicate 128 0)).toArray from Blk.new w5 _ _)
      have HZB := Lib.hid ((Below.refl w5.heap.size w5).alloc (Nat.le_refl _) (.cells zsec.cs.toArray 34))
      go_wp2_with (first
        | (with_reducible refine cp_magic rfl _ _ rfl w5.heap.size _ _ 34 (List.replicate 128 0) _ spl_magic rfl rfl HZ.out (by omega) (by simp) ?_; intro w6 h6
           have HB6 := Lib.hid (HZB.out.trans (chg_below h6.out.2 (Nat.le_refl _) HZB.out.size)))
        | (with_reducible refine cp_bys rfl _ _ rfl w5.heap.size 4 _ _ 16 _ _ _ 34 (magicL ++ List.replicate 124 0) _ ((magicL ++ (bytesF 8 u.txg ++ bytesF 8 u.stamp)) ++ List.replicate 108 0) (spl_end (by simp [magicL]) (by simp [bytesF_len])) rfl rfl h6.out.1 (HA3.out.below HB6.out) (by simp [bytesF_len]) (by omega) (by omega) (by simp [magicL]) ?_; intro w7 h7
           have HB7 := Lib.hid (HB6.out.trans (chg_below h7.out.2 (Nat.le_refl _) HB6.out.size)))
        | (with_reducible refine cp_bys rfl _ _ rfl w5.heap.size 20 _ _ 16 _ _ _ 34 ((magicL ++ (bytesF 8 u.txg ++ bytesF 8 u.stamp)) ++ List.replicate 108 0) _ (((magicL ++ (bytesF 8 u.txg ++ bytesF 8 u.stamp)) ++ ptrBytes u.at_.toNat u.birth u.sum) ++ List.replicate 92 0) (spl_end (by simp [magicL, bytesF_len]) (by simp [ptrBytes_len])) rfl rfl h7.out.1 (HA4'.out.below HB7.out) (by simp [ptrBytes_len]) (by omega) (by omega) (by simp [magicL, bytesF_len]) ?_; intro w8 h8
           have HB8 := Lib.hid (HB7.out.trans (chg_below h8.out.2 (Nat.le_refl _) HB7.out.size)))
        | (with_reducible refine cp_bys rfl _ _ rfl w5.heap.size 36 _ _ 8 _ _ _ 34 (((magicL ++ (bytesF 8 u.txg ++ bytesF 8 u.stamp)) ++ ptrBytes u.at_.toNat u.birth u.sum) ++ List.replicate 92 0) _ (headU u ++ List.replicate 4 0) (spl_front u) rfl rfl h8.out.1 (HA5.out.below HB8.out) (by simp [bytesF_len]) (by omega) (by omega) (by simp [magicL, bytesF_len, ptrBytes_len]) ?_; intro w9 h9
           have HB9 := Lib.hid (HB8.out.trans (chg_below h9.out.2 (Nat.le_refl _) HB8.out.size))))
      have hin : w5.heap.size < w9.heap.size := h9.out.1.lt
      have HS := Lib.hid (fun (c : Nat) => of_any (some ⟨w5.heap.size, 0, none⟩) c _ (headU u) (w9.alloc (.cells #[.int .i64 4] 3)) (by
        have h := ((h9.out.1.below ((Below.refl _ _).alloc (Nat.le_refl _) (.cells #[.int .i64 4] 3)) h9.out.1.lt).rdB 0 124)
        rwa [List.drop_zero, List.take_left' (head_len u)] at h) (by rw [head_len]; omega))
      rw [head_len] at HS
      have hq : (moreF 0 (headU u) : Int) ≤ 4294967295 := by have := HM.out; omega
      have HX := Lib.hid (rd_a w9 #[.int .i64 4] 3 (.cells #[.int .u64 (moreF 0 (headU u) : Int)] 22))
      have HY := Lib.hid (rd_b w9 #[.int .u64 (moreF 0 (headU u) : Int)] 22 (.cells #[.int .i64 4] 3))
      have HXY := Lib.hid (((Below.refl w9.heap.size w9).alloc (Nat.le_refl _) (.cells #[.int .i64 4] 3)).alloc (by simp) (.cells #[.int .u64 (moreF 0 (headU u) : Int)] 22))
      have HE : Hid (spl (headU u ++ List.replicate 4 0) 124 (bytesF 4 (moreF 0 (headU u))) = (secU u).l) := by
        show _ = _
        rw [spl_end (j := 0) (head_len u) (by simp [bytesF_len])]
        simp [secU]
      have HL : Hid ((headU u ++ List.replicate 4 (0 : UInt8)).length = 128) := by show _ = _; simp [head_len]
      clear hin HM HA3 HA4' HA5 h6 h7 h8 HB6 HB7 HB8
      generalize moreF 0 (headU u) = q at *
      go_wp2_with (first
        | (go_at_call 38; refine (HS.out _).mono ?_; rintro e wX ⟨rfl, rfl⟩)
        | (go_at_call 34; refine (HP3.out _ _ _ _ _ HX.out HY.out).mono ?_; rintro e w10 ⟨A6, k6, rfl, hA6, hk6, hb6⟩)
        | (with_reducible refine cp_bys rfl _ _ rfl w5.heap.size 124 _ _ 4 _ _ _ 34 (headU u ++ List.replicate 4 0) _ _ HE.out rfl rfl (h9.out.1.below (HXY.out.trans (hb6.mono HXY.out.size)) h9.out.1.lt) hA6 (by simp [bytesF_len]) (by omega) (by omega) (by rw [HL.out]; omega) ?_; intro w11 h11
           have hS : Blk w11 w5.heap.size 34 (secU u).cs.toArray := h11.out.1
           have hb10 : Below w5.heap.size w5 w10 := HB9.out.trans ((HXY.out.trans (hb6.mono HXY.out.size)).mono HB9.out.size)
           have HBr := Lib.hid (HB5.out.next u (hb10.trans (chg_below h11.out.2 (Nat.le_refl _) hb10.size)))
           have HSr := Lib.hid hS
           clear hS hb10)
        | (with_reducible refine ld_sec rfl _ rfl w5.heap.size 0 (secU u) rfl HSr.out.secIs ?_)
        | (with_reducible refine st_sec rfl _ _ rfl (w.heap.size + 1) 0 (secU u) rfl rfl HBr.out.sec.secHas ?_; intro w12 hw12))
      have hb2 : Blk w12 (w.heap.size + 1) 34 (secU u).cs.toArray := by rw [hw12.out]; exact HBr.out.sec.secAll _
      exact bodyPost_ret (results_row_tmp rfl _ _ _ _ _ _ _ rfl hb2 Try.underlying34 rfl (sizeSec'' (secU u))) rfl ⟨rfl, by rw [hw12.out]; exact Below.setCells _ (by omega) _ _ HBr.out.below⟩
end
end Go.Proofs.Ytegcknloemgndaa
