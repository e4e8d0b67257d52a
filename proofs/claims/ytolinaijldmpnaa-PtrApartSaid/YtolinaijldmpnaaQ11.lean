/- Walks: the law on a pointer's bytes. -/
import Derived.Test.YtolinaijldmpnaaQ10
namespace Go.Proofs.Ytolinaijldmpnaa
open Go.RowKit

theorem run_eqP_same (a b s : Int) (w : World) : (binOp .eql 26 (ptv a b s) (ptv a b s)).run Try.prog w = .ok (.bool true) w := by
  rw [run_eqP]
  simp
theorem own_cap {w : World} {base e size n c : Nat} {A : Option Addr} {xs : List Value} (h : w.ownsRow base e size (.slice A n c) n xs) : n ≤ c := by
  obtain ⟨A', c', he, _, hc⟩ := own_rd h
  injection he with _ _ h3
  subst h3
  exact hc
theorem ptrBytes_any (w : World) (a b s : Int) (h : IsPtr a b s) (A : Option Addr) (c : Nat) (l : List UInt8) (hs : Rd w w.heap.size A (bys l)) (hc : l.length ≤ c) (hl : l.length ≤ 140737488351232) :
    Calls Try.prog 5 #[ptv a b s, .slice A l.length c] w fun e w' => e = .returned (.bool true) ∧ Below w.heap.size w w' := by
  have HA := Lib.hid alive_any
  have HY := Lib.hid (fun w => bytes_any h w)
  have HZ := Lib.hid (fun w => rbytes_any h w)
  have HL := Lib.hid hl
  have HC := Lib.hid hc
  have hq := neq_self (bsF a b s)
  have hp := run_eqP_same (rdA l) (rdB l) (rdS l)
  clear hl hc h
  go_enter Try.func5, Try.ntmps5
  go_wp2_with fail
  refine (HY.out _).mono ?_
  rintro e w1 ⟨A1, c1, rfl, h1, -, hb1⟩
  obtain ⟨hc0, hc1, hc2⟩ := ptr_here hb1
  have hB1 : Below w.heap.size w w1 := ((Below.refl w.heap.size w).alloc (by omega) _).trans (hb1.mono (by simp))
  have HB1 := Lib.hid hB1
  have HR1 := Lib.hid h1
  clear hb1 hB1 h1
  go_wp2_with fail
  refine (HZ.out _).mono ?_
  rintro e w2 ⟨A2, c2, rfl, h2, -, hb2⟩
  have HB2 := Lib.hid (HB1.out.trans (hb2.mono HB1.out.size))
  have HR2 := Lib.hid h2
  have HR1' := Lib.hid ((HR1.out.below hb2).mono hb2.size)
  have HS2 := Lib.hid ((hs.below HB2.out).mono HB2.out.size)
  clear hb2 h2 hc0 hc1 hc2 HR1
  go_wp2_with (at_builtin; go_loud (refine app_copy rfl 24 25 rfl rfl w2.heap.size A l.length l.length c l rfl rfl rfl (HS2.out.below ((Below.refl _ _).alloc (Nat.le_refl _) _)) (by have := HL.out; omega) ?_); intro A3 c3 w3 hv3 hb3; have HV3 := Lib.hid hv3; have HB3 := Lib.hid hb3; clear hv3 hb3)
  have HR3 := Lib.hid (own_rd_at HV3.out)
  have HC3 := Lib.hid (own_cap HV3.out)
  clear HV3
  refine (read_any A3 c3 l HC3.out _ HR3.out).mono ?_
  rintro e w4 ⟨rfl, hb4⟩
  have HB4 := Lib.hid (HB2.out.trans ((HB3.out.trans (hb4.mono HB3.out.size)).mono HB2.out.size))
  have HB24 := Lib.hid (HB3.out.trans (hb4.mono HB3.out.size))
  clear hb4 HR3 HC3 HB3
  go_wp2_with fail
  refine (rread_any A c l HC.out _ ((hs.below (HB4.out.alloc HB4.out.size _)).mono (by have := HB4.out.size; simp; omega))).mono ?_
  rintro e w6 ⟨rfl, hb6⟩
  obtain ⟨d0, d1, d2⟩ := ptr_here hb6
  have hlt6 : w4.heap.size < w6.heap.size := by have := hb6.size; simp at this; omega
  have HB6 := Lib.hid (HB4.out.trans ((((Below.refl w4.heap.size w4).alloc (by omega) _).trans (hb6.mono (by simp))).mono HB4.out.size))
  have HB26 := Lib.hid (HB24.out.trans ((((Below.refl w4.heap.size w4).alloc (by omega) _).trans (hb6.mono (by simp))).mono HB24.out.size))
  clear hb6 HB4 HB24
  go_wp2_with (go_at_call 9; refine (HA.out _).mono ?_; rintro e w7 ⟨rfl, hb7⟩; obtain ⟨g0, g1, g2⟩ := ptr_here hb7; have d0' := (hb7.cell (p := ⟨w4.heap.size, 0, none⟩) (by simp; omega)).trans ((Below.cell ((Below.refl w6.heap.size w6).alloc (Nat.le_refl _) _) hlt6).trans d0); have d1' := (hb7.cell (p := ⟨w4.heap.size, 1, none⟩) (by simp; omega)).trans ((Below.cell ((Below.refl w6.heap.size w6).alloc (Nat.le_refl _) _) hlt6).trans d1); have d2' := (hb7.cell (p := ⟨w4.heap.size, 2, none⟩) (by simp; omega)).trans ((Below.cell ((Below.refl w6.heap.size w6).alloc (Nat.le_refl _) _) hlt6).trans d2); have HB67 := Lib.hid (((Below.refl w6.heap.size w6).alloc (by omega) _).trans (hb7.mono (by simp))); have HB27 := Lib.hid (HB26.out.trans (HB67.out.mono HB26.out.size)); have HB7 := Lib.hid (HB6.out.trans (HB67.out.mono HB6.out.size)); have hk1 := conv_bytes (c := c1) (HR1'.out.below HB27.out); have hk2 := conv_bytes (c := c2) (HR2.out.below HB27.out); clear hb7)
  go_ret
  exact ⟨rfl, HB7.out⟩
end Go.Proofs.Ytolinaijldmpnaa
