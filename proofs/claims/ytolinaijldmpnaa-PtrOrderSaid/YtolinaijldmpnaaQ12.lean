/- Walks: the law there and back. -/
import Derived.Test.YtolinaijldmpnaaQ11
namespace Go.Proofs.Ytolinaijldmpnaa
open Go.RowKit

theorem run_neqP_same (a b s : Int) (w : World) : (binOp .neq 26 (ptv a b s) (ptv a b s)).run Try.prog w = .ok (.bool false) w := by
  have h := run_eqP a b s a b s w
  rw [run_eql_struct] at h
  rw [run_neq_struct]
  revert h
  generalize (Op.equalIn 10000 26 (ptv a b s) (ptv a b s)).run Try.prog w = r
  intro h
  cases r with
  | ok x w' =>
    simp only [Result.andThen_ok, beq_self_eq_true, Bool.and_self, Result.ok.injEq, Value.bool.injEq] at h ⊢
    rw [h.1, h.2]
    exact ⟨rfl, rfl⟩
  | _ => simp [Result.andThen] at h
theorem bytes_r {a b s : Int} (h : IsPtr a b s) (hr : rightF a b s = true) (w : World) : Calls Try.prog 16 #[ptv a b s] w fun e w' =>
    ∃ A c, e = .returned (.tuple #[.slice A 16 c, .int .i64 0]) ∧ Rd w' w'.heap.size A (bys (bsF a b s)) ∧ 16 ≤ c ∧ Below w.heap.size w w' := by
  refine (bytes_any h w).mono ?_
  rintro e w' ⟨A, c, rfl, h1, h2, hb⟩
  obtain ⟨-, -, -, -, -, e6⟩ := back_ptr h hr
  rw [e6] at h2 ⊢
  rw [show bsC a b s = 0 from if_pos hr]
  exact ⟨A, c, rfl, h1, h2, hb⟩
theorem bytes_n {a b s : Int} (h : IsPtr a b s) (hr : rightF a b s = false) (w : World) : Calls Try.prog 16 #[ptv a b s] w fun e w' =>
    ∃ A c, e = .returned (.tuple #[.slice A 0 c, .int .i64 51]) ∧ Below w.heap.size w w' := by
  refine (bytes_any h w).mono ?_
  rintro e w' ⟨A, c, rfl, -, -, hb⟩
  have hr' : ¬ rightF a b s = true := by simp [hr]
  rw [show bsF a b s = [] from if_neg hr', show bsC a b s = 51 from if_neg hr']
  exact ⟨A, c, rfl, hb⟩
theorem read_r {a b s : Int} (h : IsPtr a b s) (hr : rightF a b s = true) (A : Option Addr) (c : Nat) (w : World) (hc : 16 ≤ c) (hs : Rd w w.heap.size A (bys (bsF a b s))) :
    Calls Try.prog 18 #[.slice A 16 c] w fun e w' => e = .returned (.tuple #[ptv a b s, .int .i64 0]) ∧ Below w.heap.size w w' := by
  obtain ⟨-, e1, e2, e3, e4, e6⟩ := back_ptr h hr
  have := read_any A c (bsF a b s) (by omega) w hs
  rwa [e1, e2, e3, e4, e6] at this
theorem read_o {l : List UInt8} (ho : okF l = true) (A : Option Addr) (c : Nat) (hc : l.length ≤ c) (w : World) (hs : Rd w w.heap.size A (bys l)) :
    Calls Try.prog 18 #[.slice A l.length c] w fun e w' => e = .returned (.tuple #[ptv (rdA l) (rdB l) (rdS l), .int .i64 0]) ∧ Below w.heap.size w w' := by
  have := read_any A c l hc w hs
  rwa [(rd_yes ho).2.2.2] at this
theorem read_n {l : List UInt8} (ho : okF l = false) (A : Option Addr) (c : Nat) (hc : l.length ≤ c) (w : World) (hs : Rd w w.heap.size A (bys l)) :
    Calls Try.prog 18 #[.slice A l.length c] w fun e w' => e = .returned (.tuple #[ptv 0 0 0, .int .i64 51]) ∧ Below w.heap.size w w' := by
  have := read_any A c l hc w hs
  obtain ⟨e1, e2, e3, e4⟩ := rd_no ho
  rwa [e1, e2, e3, e4] at this
theorem bytes_o {l : List UInt8} (ho : okF l = true) (w : World) : Calls Try.prog 16 #[ptv (rdA l) (rdB l) (rdS l)] w fun e w' =>
    ∃ A c, e = .returned (.tuple #[.slice A l.length c, .int .i64 0]) ∧ Rd w' w'.heap.size A (bys l) ∧ Below w.heap.size w w' := by
  refine (bytes_any (rd_is l) w).mono ?_
  rintro e w' ⟨A, c, rfl, h1, h2, hb⟩
  rw [(back_bys ho).1] at h1 ⊢
  rw [(back_bys ho).2]
  exact ⟨A, c, rfl, h1, hb⟩
theorem right_is {a b s : Int} {x : Bool} (h : rightF a b s = x) (w : World) : Calls Try.prog 10 #[ptv a b s] w fun e w' => e = .returned (.bool x) ∧ Below w.heap.size w w' := by
  subst h
  exact right_any a b s w
section
variable (w : World) {a b s : Int} (h : IsPtr a b s) (A : Option Addr) (c : Nat) (l : List UInt8) (hs : Rd w w.heap.size A (bys l)) (hl : l.length ≤ 140737488351232)

include h hs hl in
theorem ptrBack_nn (hr : rightF a b s = false) (ho : okF l = false) :
    Calls Try.prog 6 #[ptv a b s, .slice A l.length c] w fun e w' => e = .returned (.bool true) ∧ Below w.heap.size w w' := by
  have HA := Lib.hid alive_any
  have HR := Lib.hid (right_is hr)
  have HL := Lib.hid hl
  have HY := Lib.hid (bytes_n h hr)
  have HO := Lib.hid (read_n ho)
  have hz := run_eqP_same 0 0 0
  clear h hr ho hl
  go_enter Try.func6, Try.ntmps6
  go_wp2_with fail
  have hb0 : Below w.heap.size w (w.alloc (pto a b s)) := (Below.refl w.heap.size w).alloc (by omega) _
  have hk0 : Blk (w.alloc (pto a b s)) w.heap.size 26 (pcs a b s) := Blk.new w _ _
  have hl0 : w.heap.size < (w.alloc (pto a b s)).heap.size := by simp
  generalize w.alloc (pto a b s) = w0 at *
  refine (HA.out _).mono ?_
  rintro e w1 ⟨rfl, hb1⟩
  have hk1 := hk0.below hb1 hl0
  have hl1 : w.heap.size < w1.heap.size := Nat.lt_of_lt_of_le hl0 hb1.size
  have hB1 := hb0.trans (hb1.mono hb0.size)
  have c0 := hk1.cell 0
  have c1 := hk1.cell 1
  have c2 := hk1.cell 2
  have HB1 := Lib.hid hB1
  clear hk0 hb1 hb0 hB1 hl0
  have HK1 := Lib.hid hk1
  clear hk1
  go_wp2_with fail
  refine (HY.out _).mono ?_
  rintro e w2 ⟨A2, c2', rfl, hb2⟩
  have HK2 := Lib.hid (HK1.out.below hb2 hl1)
  have hl2 : w.heap.size < w2.heap.size := Nat.lt_of_lt_of_le hl1 hb2.size
  have HB2 := Lib.hid (HB1.out.trans (hb2.mono HB1.out.size))
  clear hb2 HK1 c0 c1 c2 HB1
  have c0 := HK2.out.cell 0
  have c1 := HK2.out.cell 1
  have c2 := HK2.out.cell 2
  go_wp2_with fail
  refine (HR.out _).mono ?_
  rintro e w3 ⟨rfl, hb3⟩
  have HK3 := Lib.hid (HK2.out.below hb3 hl2)
  have hl3 : w.heap.size < w3.heap.size := Nat.lt_of_lt_of_le hl2 hb3.size
  have HB3 := Lib.hid (HB2.out.trans (hb3.mono HB2.out.size))
  clear hb3 HK2 c0 c1 c2 HB2
  have HB5 := Lib.hid HB3.out
  have HS5 := Lib.hid ((hs.below HB5.out).mono HB5.out.size)
  go_wp2_with (at_builtin; go_loud (refine app_copy rfl 45 46 rfl rfl w3.heap.size A l.length l.length c l rfl rfl rfl (HS5.out.below ((Below.refl _ _).alloc (Nat.le_refl _) _)) (by have := HL.out; omega) ?_); intro A5 c5 w6 hv6 hb6; have HV6 := Lib.hid hv6; have HB6 := Lib.hid (HB5.out.trans (hb6.mono HB5.out.size)); clear hv6 hb6)
  have HR6 := Lib.hid (own_rd_at HV6.out)
  have HC6 := Lib.hid (own_cap HV6.out)
  refine (HO.out _ _ HC6.out _ HR6.out).mono ?_
  rintro e w7 ⟨rfl, hb7⟩
  have HB7 := Lib.hid (HB6.out.trans (hb7.mono HB6.out.size))
  clear hb7
  go_wp2_with fail
  go_ret
  exact ⟨rfl, HB7.out.alloc HB7.out.size _⟩

include h hs hl in
theorem ptrBack_no (hr : rightF a b s = false) (ho : okF l = true) :
    Calls Try.prog 6 #[ptv a b s, .slice A l.length c] w fun e w' => e = .returned (.bool true) ∧ Below w.heap.size w w' := by
  have HA := Lib.hid alive_any
  have HR := Lib.hid (right_is hr)
  have HL := Lib.hid hl
  have HY := Lib.hid (bytes_n h hr)
  have HO := Lib.hid (read_o ho)
  have HZ := Lib.hid (bytes_o ho)
  have hq := neq_self l
  clear h hr ho hl
  go_enter Try.func6, Try.ntmps6
  go_wp2_with fail
  have hb0 : Below w.heap.size w (w.alloc (pto a b s)) := (Below.refl w.heap.size w).alloc (by omega) _
  have hk0 : Blk (w.alloc (pto a b s)) w.heap.size 26 (pcs a b s) := Blk.new w _ _
  have hl0 : w.heap.size < (w.alloc (pto a b s)).heap.size := by simp
  generalize w.alloc (pto a b s) = w0 at *
  refine (HA.out _).mono ?_
  rintro e w1 ⟨rfl, hb1⟩
  have hk1 := hk0.below hb1 hl0
  have hl1 : w.heap.size < w1.heap.size := Nat.lt_of_lt_of_le hl0 hb1.size
  have hB1 := hb0.trans (hb1.mono hb0.size)
  have c0 := hk1.cell 0
  have c1 := hk1.cell 1
  have c2 := hk1.cell 2
  have HB1 := Lib.hid hB1
  clear hk0 hb1 hb0 hB1 hl0
  have HK1 := Lib.hid hk1
  clear hk1
  go_wp2_with fail
  refine (HY.out _).mono ?_
  rintro e w2 ⟨A2, c2', rfl, hb2⟩
  have HK2 := Lib.hid (HK1.out.below hb2 hl1)
  have hl2 : w.heap.size < w2.heap.size := Nat.lt_of_lt_of_le hl1 hb2.size
  have HB2 := Lib.hid (HB1.out.trans (hb2.mono HB1.out.size))
  clear hb2 HK1 c0 c1 c2 HB1
  have c0 := HK2.out.cell 0
  have c1 := HK2.out.cell 1
  have c2 := HK2.out.cell 2
  go_wp2_with fail
  refine (HR.out _).mono ?_
  rintro e w3 ⟨rfl, hb3⟩
  have HK3 := Lib.hid (HK2.out.below hb3 hl2)
  have hl3 : w.heap.size < w3.heap.size := Nat.lt_of_lt_of_le hl2 hb3.size
  have HB3 := Lib.hid (HB2.out.trans (hb3.mono HB2.out.size))
  clear hb3 HK2 c0 c1 c2 HB2
  have HB5 := Lib.hid HB3.out
  have HS5 := Lib.hid ((hs.below HB5.out).mono HB5.out.size)
  go_wp2_with (at_builtin; go_loud (refine app_copy rfl 45 46 rfl rfl w3.heap.size A l.length l.length c l rfl rfl rfl (HS5.out.below ((Below.refl _ _).alloc (Nat.le_refl _) _)) (by have := HL.out; omega) ?_); intro A5 c5 w6 hv6 hb6; have HV6 := Lib.hid hv6; have HB6 := Lib.hid (HB5.out.trans (hb6.mono HB5.out.size)); clear hv6 hb6)
  have HR6 := Lib.hid (own_rd_at HV6.out)
  have HC6 := Lib.hid (own_cap HV6.out)
  refine (HO.out _ _ HC6.out _ HR6.out).mono ?_
  rintro e w7 ⟨rfl, hb7⟩
  have HB7 := Lib.hid (HB6.out.trans (hb7.mono HB6.out.size))
  clear hb7
  go_wp2_with fail
  refine (HZ.out _).mono ?_
  rintro e w8 ⟨A8, c8, rfl, hr8, hb8⟩
  have HB8 := Lib.hid ((HB7.out.alloc HB7.out.size _).trans (hb8.mono (by have := HB7.out.size; simp; omega)))
  have hk1 := conv_bytes (c := c8) hr8
  have hk2 := conv_bytes (c := c) (hs.below HB8.out)
  clear hr8 hb8
  go_wp2_with fail
  go_ret
  exact ⟨rfl, HB8.out⟩

include h hs hl in
theorem ptrBack_yn (hr : rightF a b s = true) (ho : okF l = false) :
    Calls Try.prog 6 #[ptv a b s, .slice A l.length c] w fun e w' => e = .returned (.bool true) ∧ Below w.heap.size w w' := by
  have HA := Lib.hid alive_any
  have HR := Lib.hid (right_is hr)
  have HL := Lib.hid hl
  have HY := Lib.hid (bytes_r h hr)
  have HX := Lib.hid (read_r h hr)
  have hne := run_neqP_same a b s
  have HO := Lib.hid (read_n ho)
  have hz := run_eqP_same 0 0 0
  clear h hr ho hl
  go_enter Try.func6, Try.ntmps6
  go_wp2_with fail
  have hb0 : Below w.heap.size w (w.alloc (pto a b s)) := (Below.refl w.heap.size w).alloc (by omega) _
  have hk0 : Blk (w.alloc (pto a b s)) w.heap.size 26 (pcs a b s) := Blk.new w _ _
  have hl0 : w.heap.size < (w.alloc (pto a b s)).heap.size := by simp
  generalize w.alloc (pto a b s) = w0 at *
  refine (HA.out _).mono ?_
  rintro e w1 ⟨rfl, hb1⟩
  have hk1 := hk0.below hb1 hl0
  have hl1 : w.heap.size < w1.heap.size := Nat.lt_of_lt_of_le hl0 hb1.size
  have hB1 := hb0.trans (hb1.mono hb0.size)
  have c0 := hk1.cell 0
  have c1 := hk1.cell 1
  have c2 := hk1.cell 2
  have HB1 := Lib.hid hB1
  clear hk0 hb1 hb0 hB1 hl0
  have HK1 := Lib.hid hk1
  clear hk1
  go_wp2_with fail
  refine (HY.out _).mono ?_
  rintro e w2 ⟨A2, c2', rfl, hr2, hc2, hb2⟩
  have HK2 := Lib.hid (HK1.out.below hb2 hl1)
  have hl2 : w.heap.size < w2.heap.size := Nat.lt_of_lt_of_le hl1 hb2.size
  have HB2 := Lib.hid (HB1.out.trans (hb2.mono HB1.out.size))
  clear hb2 HK1 c0 c1 c2 HB1
  have c0 := HK2.out.cell 0
  have c1 := HK2.out.cell 1
  have c2 := HK2.out.cell 2
  have HR2 := Lib.hid hr2
  have HC2 := Lib.hid hc2
  clear hr2 hc2
  go_wp2_with fail
  refine (HR.out _).mono ?_
  rintro e w3 ⟨rfl, hb3⟩
  have HK3 := Lib.hid (HK2.out.below hb3 hl2)
  have hl3 : w.heap.size < w3.heap.size := Nat.lt_of_lt_of_le hl2 hb3.size
  have HB3 := Lib.hid (HB2.out.trans (hb3.mono HB2.out.size))
  have HR3 := Lib.hid ((HR2.out.below hb3).mono hb3.size)
  clear hb3 HK2 c0 c1 c2 HB2
  go_wp2_with fail
  refine (HX.out _ _ _ HC2.out HR3.out).mono ?_
  rintro e w4 ⟨rfl, hb4⟩
  have HK4 := Lib.hid (HK3.out.below hb4 hl3)
  have hl4 : w.heap.size < w4.heap.size := Nat.lt_of_lt_of_le hl3 hb4.size
  have HB4 := Lib.hid (HB3.out.trans (hb4.mono HB3.out.size))
  clear hb4 HB3
  have c0 := HK4.out.cell 0
  have c1 := HK4.out.cell 1
  have c2 := HK4.out.cell 2
  have HB5 := Lib.hid (HB4.out.alloc HB4.out.size (pto a b s))
  have e5 : (w4.alloc (pto a b s)).heap.size = w4.heap.size + 1 := by simp
  have HS5 := Lib.hid ((hs.below HB5.out).mono HB5.out.size)
  go_wp2_with (at_builtin; go_loud (refine app_copy rfl 45 46 rfl (by rw [e5]; rfl) (w4.alloc (pto a b s)).heap.size A l.length l.length c l rfl rfl rfl (HS5.out.below ((Below.refl _ _).alloc (Nat.le_refl _) _)) (by have := HL.out; omega) ?_); intro A5 c5 w6 hv6 hb6; have HV6 := Lib.hid hv6; have HB6 := Lib.hid (HB5.out.trans (hb6.mono HB5.out.size)); clear hv6 hb6)
  have HR6 := Lib.hid (own_rd_at HV6.out)
  have HC6 := Lib.hid (own_cap HV6.out)
  refine (HO.out _ _ HC6.out _ HR6.out).mono ?_
  rintro e w7 ⟨rfl, hb7⟩
  have HB7 := Lib.hid (HB6.out.trans (hb7.mono HB6.out.size))
  clear hb7
  go_wp2_with fail
  go_ret
  exact ⟨rfl, HB7.out.alloc HB7.out.size _⟩

include h hs hl in
theorem ptrBack_yo (hr : rightF a b s = true) (ho : okF l = true) :
    Calls Try.prog 6 #[ptv a b s, .slice A l.length c] w fun e w' => e = .returned (.bool true) ∧ Below w.heap.size w w' := by
  have HA := Lib.hid alive_any
  have HR := Lib.hid (right_is hr)
  have HL := Lib.hid hl
  have HY := Lib.hid (bytes_r h hr)
  have HX := Lib.hid (read_r h hr)
  have hne := run_neqP_same a b s
  have HO := Lib.hid (read_o ho)
  have HZ := Lib.hid (bytes_o ho)
  have hq := neq_self l
  clear h hr ho hl
  go_enter Try.func6, Try.ntmps6
  go_wp2_with fail
  have hb0 : Below w.heap.size w (w.alloc (pto a b s)) := (Below.refl w.heap.size w).alloc (by omega) _
  have hk0 : Blk (w.alloc (pto a b s)) w.heap.size 26 (pcs a b s) := Blk.new w _ _
  have hl0 : w.heap.size < (w.alloc (pto a b s)).heap.size := by simp
  generalize w.alloc (pto a b s) = w0 at *
  refine (HA.out _).mono ?_
  rintro e w1 ⟨rfl, hb1⟩
  have hk1 := hk0.below hb1 hl0
  have hl1 : w.heap.size < w1.heap.size := Nat.lt_of_lt_of_le hl0 hb1.size
  have hB1 := hb0.trans (hb1.mono hb0.size)
  have c0 := hk1.cell 0
  have c1 := hk1.cell 1
  have c2 := hk1.cell 2
  have HB1 := Lib.hid hB1
  clear hk0 hb1 hb0 hB1 hl0
  have HK1 := Lib.hid hk1
  clear hk1
  go_wp2_with fail
  refine (HY.out _).mono ?_
  rintro e w2 ⟨A2, c2', rfl, hr2, hc2, hb2⟩
  have HK2 := Lib.hid (HK1.out.below hb2 hl1)
  have hl2 : w.heap.size < w2.heap.size := Nat.lt_of_lt_of_le hl1 hb2.size
  have HB2 := Lib.hid (HB1.out.trans (hb2.mono HB1.out.size))
  clear hb2 HK1 c0 c1 c2 HB1
  have c0 := HK2.out.cell 0
  have c1 := HK2.out.cell 1
  have c2 := HK2.out.cell 2
  have HR2 := Lib.hid hr2
  have HC2 := Lib.hid hc2
  clear hr2 hc2
  go_wp2_with fail
  refine (HR.out _).mono ?_
  rintro e w3 ⟨rfl, hb3⟩
  have HK3 := Lib.hid (HK2.out.below hb3 hl2)
  have hl3 : w.heap.size < w3.heap.size := Nat.lt_of_lt_of_le hl2 hb3.size
  have HB3 := Lib.hid (HB2.out.trans (hb3.mono HB2.out.size))
  have HR3 := Lib.hid ((HR2.out.below hb3).mono hb3.size)
  clear hb3 HK2 c0 c1 c2 HB2
  go_wp2_with fail
  refine (HX.out _ _ _ HC2.out HR3.out).mono ?_
  rintro e w4 ⟨rfl, hb4⟩
  have HK4 := Lib.hid (HK3.out.below hb4 hl3)
  have hl4 : w.heap.size < w4.heap.size := Nat.lt_of_lt_of_le hl3 hb4.size
  have HB4 := Lib.hid (HB3.out.trans (hb4.mono HB3.out.size))
  clear hb4 HB3
  have c0 := HK4.out.cell 0
  have c1 := HK4.out.cell 1
  have c2 := HK4.out.cell 2
  have HB5 := Lib.hid (HB4.out.alloc HB4.out.size (pto a b s))
  have e5 : (w4.alloc (pto a b s)).heap.size = w4.heap.size + 1 := by simp
  have HS5 := Lib.hid ((hs.below HB5.out).mono HB5.out.size)
  go_wp2_with (at_builtin; go_loud (refine app_copy rfl 45 46 rfl (by rw [e5]; rfl) (w4.alloc (pto a b s)).heap.size A l.length l.length c l rfl rfl rfl (HS5.out.below ((Below.refl _ _).alloc (Nat.le_refl _) _)) (by have := HL.out; omega) ?_); intro A5 c5 w6 hv6 hb6; have HV6 := Lib.hid hv6; have HB6 := Lib.hid (HB5.out.trans (hb6.mono HB5.out.size)); clear hv6 hb6)
  have HR6 := Lib.hid (own_rd_at HV6.out)
  have HC6 := Lib.hid (own_cap HV6.out)
  refine (HO.out _ _ HC6.out _ HR6.out).mono ?_
  rintro e w7 ⟨rfl, hb7⟩
  have HB7 := Lib.hid (HB6.out.trans (hb7.mono HB6.out.size))
  clear hb7
  go_wp2_with fail
  refine (HZ.out _).mono ?_
  rintro e w8 ⟨A8, c8, rfl, hr8, hb8⟩
  have HB8 := Lib.hid ((HB7.out.alloc HB7.out.size _).trans (hb8.mono (by have := HB7.out.size; simp; omega)))
  have hk1 := conv_bytes (c := c8) hr8
  have hk2 := conv_bytes (c := c) (hs.below HB8.out)
  clear hr8 hb8
  go_wp2_with fail
  go_ret
  exact ⟨rfl, HB8.out⟩

include h hs hl in
theorem ptrBack_any : Calls Try.prog 6 #[ptv a b s, .slice A l.length c] w fun e w' => e = .returned (.bool true) ∧ Below w.heap.size w w' := by
  rcases hr : rightF a b s with _ | _ <;> rcases ho : okF l with _ | _
  · exact ptrBack_nn w h A c l hs hl hr ho
  · exact ptrBack_no w h A c l hs hl hr ho
  · exact ptrBack_yn w h A c l hs hl hr ho
  · exact ptrBack_yo w h A c l hs hl hr ho
end
end Go.Proofs.Ytolinaijldmpnaa
