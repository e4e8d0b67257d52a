/- Walks: the law on texts cut off. -/
import Derived.Test.YtccmannmbldghaaF17
namespace Go.Proofs.Ytccmannmbldghaa
open Go.RowKit

/-- append(t, b): one byte more behind a copy. -/
theorem app_more {ops : Array Oper} {rest : List Oper} {o : Oper} {a : Act} {w : World} {Q : Exit → Act → World → Prop} (hgd : o.guard = none) (s x : Nat)
    (ho : o.op = .call { callee := .builtin .append, args := #[.tmp s, .tmp x], argTypes := #[26, 26] })
    (A : Option Addr) (n c base : Nat) (t : List UInt8) (b : UInt8) (z : Int) (hs : a.eval (.tmp s) = .slice A n c) (hn : t.length = n) (hown : OwnB w base (.slice A n c) t) (hz : z = (b.toNat : Int))
    (hx : a.eval (.tmp x) = .slice (some ⟨w.heap.size, 0, none⟩) 1 1) (hbase : base ≤ w.heap.size) (hl : n + 1 ≤ 140737488355328)
    (h : ∀ A' c' w', Rd w' w'.heap.size A' (bys (t ++ [b])) → n + 1 ≤ c' → Below base w w' → wpList Try.prog ops Q rest (a.put o.dst (.slice A' (n + 1) c')) w') :
    wpList Try.prog ops Q (o :: rest) a (w.alloc (.cells #[.int .u8 z] 5)) := by
  subst hn
  refine app_one Try.underlying26 infoByte rfl hgd s x ho base _ _ _ hs hown _ rfl hx hbase (by omega) (by omega) ?_
  intro v' w' h1 h2
  have h3 := ownB_snoc rfl hz h1
  obtain ⟨A', c', rfl, h4, h5⟩ := own_rd h3
  rw [List.length_append] at h5 ⊢
  exact h A' c' w' h4 h5 (below_own ((Below.refl _ _).alloc hbase _) (World.ownsRow.alloc hown _) (Nat.le_refl _) (by simp; omega) h2)

theorem join_len {ts : List (List UInt8)} {x : List UInt8} (h : joinF ts = some x) : x.length ≤ 4294967297 := by
  unfold joinF at h
  split at h
  · rename_i hc
    simp only [Option.some.injEq] at h
    subst h
    have := body_len (short_mem hc.2)
    rw [List.length_append, lead_len]
    omega
  · cases h

section
variable (w : World) (A : Option Addr) (c : Nat) (l : List Tx) (hs : Rd w w.heap.size A (txs l)) (hin : TxIn w w.heap.size l) (z : Int)

theorem fieldCuts_many (hm : (100 : Int) < l.length) :
    Calls Try.prog 8 #[.slice A l.length c, .int .i64 z] w fun e w' => e = .returned (.bool true) ∧ Below w.heap.size w w' := by
  go_enter Try.func8, Try.ntmps8
  go_wp2_with fail
  refine (alive_any _).mono ?_
  rintro e w1 ⟨rfl, hb1⟩
  go_wp2_with fail
  go_ret
  exact ⟨rfl, hb1⟩
include hs hin
theorem fieldCuts_none (hm : (l.length : Int) ≤ 100) (hj : joinF (byt l) = none) :
    Calls Try.prog 8 #[.slice A l.length c, .int .i64 z] w fun e w' => e = .returned (.bool true) ∧ Below w.heap.size w w' := by
  have HJ := Lib.hid hj; have HI := Lib.hid hin; clear hj hin
  go_enter Try.func8, Try.ntmps8
  go_wp2_with fail
  refine (alive_any _).mono ?_
  rintro e w1 ⟨rfl, hb1⟩
  have HB1 := Lib.hid hb1; clear hb1
  go_wp2_with fail
  refine (join_is_none A c l _ ((hs.below HB1.out).mono HB1.out.size) ((HI.out.below HB1.out).mono HB1.out.size) HJ.out).mono ?_
  rintro e w2 ⟨A2, c2, rfl, hb2⟩
  have HB2 := Lib.hid (HB1.out.trans (hb2.mono HB1.out.size)); clear hb2
  go_wp2_with fail
  go_ret
  exact ⟨rfl, HB2.out⟩
theorem fieldCuts_below (hm : (l.length : Int) ≤ 100) {x : List UInt8} (hj : joinF (byt l) = some x) (hz : z < 0) :
    Calls Try.prog 8 #[.slice A l.length c, .int .i64 z] w fun e w' => e = .returned (.bool true) ∧ Below w.heap.size w w' := by
  have HJ := Lib.hid hj; have HI := Lib.hid hin; clear hj hin
  go_enter Try.func8, Try.ntmps8
  go_wp2_with fail
  refine (alive_any _).mono ?_
  rintro e w1 ⟨rfl, hb1⟩
  have HB1 := Lib.hid hb1; clear hb1
  go_wp2_with fail
  refine (join_is_some A c l _ ((hs.below HB1.out).mono HB1.out.size) ((HI.out.below HB1.out).mono HB1.out.size) HJ.out).mono ?_
  rintro e w2 ⟨A2, c2, rfl, h2, hc2, hb2⟩
  have HB2 := Lib.hid (HB1.out.trans (hb2.mono HB1.out.size)); clear hb2
  go_wp2_with fail
  go_ret
  exact ⟨rfl, HB2.out⟩
set_option maxHeartbeats 2000000 in
theorem fieldCuts_some (hm : (l.length : Int) ≤ 100) {x : List UInt8} (hj : joinF (byt l) = some x) (k : Nat) :
    Calls Try.prog 8 #[.slice A l.length c, .int .i64 k] w fun e w' => e = .returned (.bool true) ∧ Below w.heap.size w w' := by
  have HJ := Lib.hid hj
  have HI := Lib.hid hin
  have HS := Lib.hid (split_join hj)
  have HS7 := Lib.hid (split_more (x := [7]) hj (by simp))
  have HX := Lib.hid (join_len hj)
  have hxl : x.length ≤ 140737488355328 := by have := HX.out; omega
  have HK : Hid (k < x.length → splitF (x.take k) = none) := fun h => split_cut hj h
  have HX2 : Hid (2 ≤ x.length) := by
    rcases Nat.lt_or_ge x.length 2 with h | h
    · have h1 := HS.out
      rw [split_short h] at h1
      cases h1
    · exact h
  clear hj hin
  go_enter Try.func8, Try.ntmps8
  go_wp2_with fail
  refine (alive_any _).mono ?_
  rintro e w1 ⟨rfl, hb1⟩
  have HB1 := Lib.hid hb1; clear hb1
  go_wp2_with fail
  refine (join_is_some A c l _ ((hs.below HB1.out).mono HB1.out.size) ((HI.out.below HB1.out).mono HB1.out.size) HJ.out).mono ?_
  rintro e w2 ⟨A2, c2, rfl, h2, hc2, hb2⟩
  have HB2 := Lib.hid (HB1.out.trans (hb2.mono HB1.out.size)); clear hb2
  obtain ⟨b2, off2, rfl, hbB, hcell⟩ := by_at h2 0 (by have := HX2.out; omega)
  clear hcell
  have HR2 := Lib.hid h2; clear h2
  have HA2 : Hid (Below w2.heap.size w2 (w2.alloc (.cells #[] 5))) := (Below.refl _ _).alloc (Nat.le_refl _) _
  go_wp2_with (at_builtin; go_loud (refine app_fresh Try.underlying26 infoByte rfl rfl 30 31 rfl rfl w2.heap.size _ x.length c2 (bys x) rfl (bys_len _) (HR2.out.below HA2.out) bys_one (by omega) (by omega) ?_); intro A3 c3 w3 hr3 hc3 hb3; have HR3 := Lib.hid hr3; have HB3 := Lib.hid hb3; clear hr3 hb3)
  refine (split_is_some A3 c3 x _ HR3.out hc3 hxl HS.out).mono ?_
  rintro e w4 ⟨A4, c4, l4, rfl, he4, h4, hi4, hb4⟩
  have HE4 := Lib.hid he4; have HR4 := Lib.hid h4; have HI4 := Lib.hid hi4; have HB4 := Lib.hid (HB3.out.trans (hb4.mono HB3.out.size)); clear he4 h4 hi4 hb4
  have HA4 : Hid (Below w2.heap.size w2 (w4.alloc (.cells #[] 5))) := HB4.out.alloc HB4.out.size _
  go_wp2_with (first
    | (at_builtin; go_loud (refine app_copy rfl 37 38 rfl rfl w2.heap.size _ x.length x.length c2 x rfl rfl rfl (HR2.out.below HA4.out) hxl ?_); intro A5 c5 w5 hv5 hb5; have HV5 := Lib.hid hv5; have HB5 := Lib.hid hb5; clear hv5 hb5)
    | (at_builtin; go_loud (refine app_more rfl 39 40 rfl A5 x.length c5 w4.heap.size x 7 _ rfl rfl HV5.out rfl rfl HB5.out.size (by have := HX.out; omega) ?_); intro A6 c6 w6 hr6 hc6 hb6; have HR6 := Lib.hid hr6; have HB6 := Lib.hid (HB5.out.trans hb6); clear hr6 hb6))
  have hsp := split_is_none A6 c6 (x ++ [7]) w6 HR6.out (by rw [List.length_append]; exact hc6) (by have := HX.out; rw [List.length_append]; simp; omega) HS7.out
  rw [List.length_append] at hsp
  refine hsp.mono ?_
  clear hsp
  rintro e w7 ⟨A7, c7, rfl, hb7⟩
  have HB7 := Lib.hid (HB6.out.trans (hb7.mono HB6.out.size)); clear hb7
  have HB27 := Lib.hid (HB4.out.trans (HB7.out.mono HB4.out.size))
  have HB07 := Lib.hid (HB2.out.trans (HB27.out.mono HB2.out.size))
  go_wp2_with fail
  refine (sameself_texts A4 A c4 c l4 l _ ((HR4.out.below HB7.out).mono HB7.out.size) ((HI4.out.below HB7.out).mono HB7.out.size) ((hs.below HB07.out).mono HB07.out.size) ((HI.out.below HB07.out).mono HB07.out.size) (by have h := congrArg List.length HE4.out; rw [byt_len, byt_len] at h; omega) HE4.out).mono ?_
  rintro e w8 ⟨rfl, n8, rfl⟩
  have HB28 := Lib.hid (below_draws HB27.out n8)
  have HB08 := Lib.hid (below_draws HB07.out n8)
  by_cases hk : k < x.length
  · have hki : (k : Int) < x.length := by omega
    have hkc : k ≤ c2 := by omega
    have hkci : (k : Int) ≤ c2 := by omega
    have HA9 : Hid (Below w2.heap.size w2 ((w7.drewN n8).alloc (.cells #[] 5))) := HB28.out.alloc HB28.out.size _
    have HKL : Hid ((bys (x.take k)).length = k) := by show _ = _; rw [bys_len, List.length_take_of_le (by omega)]
    have HRK : Hid (Rd w2 w2.heap.size (some ⟨b2, off2, none⟩) (bys (x.take k))) := by rw [← bys_take]; exact HR2.out.take k
    have hk2 : k ≤ 140737488355328 := by omega
    go_wp2_with (at_builtin; go_loud (refine app_fresh Try.underlying26 infoByte rfl rfl 62 65 rfl rfl w2.heap.size _ k c2 (bys (x.take k)) rfl HKL.out (HRK.out.below HA9.out) bys_one (by omega) (by omega) ?_); intro A9 c9 w9 hr9 hc9 hb9; have HR9 := Lib.hid hr9; have HB9 := Lib.hid hb9; clear hr9 hb9)
    have hsp := split_is_none A9 c9 (x.take k) w9 HR9.out (by rw [List.length_take_of_le (by omega)]; exact hc9) (by rw [List.length_take]; omega) (HK.out hk)
    rw [List.length_take_of_le (by omega)] at hsp
    refine hsp.mono ?_
    clear hsp
    rintro e w10 ⟨A10, c10, rfl, hb10⟩
    have HB10 := Lib.hid ((HB08.out.trans (HB9.out.mono HB08.out.size)).trans (hb10.mono (Nat.le_trans HB08.out.size HB9.out.size))); clear hb10
    go_wp2_with fail
    go_ret
    exact ⟨rfl, HB10.out⟩
  · have hki : (x.length : Int) ≤ k := by omega
    go_wp2_with fail
    go_ret
    exact ⟨rfl, HB08.out⟩

theorem fieldCuts_any : Calls Try.prog 8 #[.slice A l.length c, .int .i64 z] w fun e w' => e = .returned (.bool true) ∧ Below w.heap.size w w' := by
  by_cases hm : (100 : Int) < l.length
  · exact fieldCuts_many w A c l z hm
  · rcases hj : joinF (byt l) with _ | x
    · exact fieldCuts_none w A c l hs hin z (by omega) hj
    · by_cases hz : z < 0
      · exact fieldCuts_below w A c l hs hin z (by omega) hj hz
      · obtain ⟨k, rfl⟩ := Int.eq_ofNat_of_zero_le (show 0 ≤ z by omega)
        exact fieldCuts_some w A c l hs hin (by omega) hj k
end
end Go.Proofs.Ytccmannmbldghaa
