/- Walks: the laws of the layer's sums. -/
import Derived.Test.YtbnffcfnihepfaaS1
import Derived.Test.YtbnffcfnihepfaaBS
import Derived.Lib.SlBytesConst
namespace Go.Proofs.Ytbnffcfnihepfaa
open Go.RowKit

theorem of_nine (A : Option Addr) (c B : Nat) (w : World) (hs : Rd w B A (bys [49, 50, 51, 52, 53, 54, 55, 56, 57])) :
    Calls Try.prog 9 #[.slice A 9 c] w fun e w' => e = .returned (.int .u32 3808858755) ∧ w' = w := by
  have h := of_any A c B [49, 50, 51, 52, 53, 54, 55, 56, 57] w hs (by simp)
  have e : moreF 0 [49, 50, 51, 52, 53, 54, 55, 56, 57] = 3808858755 := by decide +kernel
  rw [e] at h
  exact h
theorem of_none (c : Nat) (w : World) :
    Calls Try.prog 9 #[.slice none 0 c] w fun e w' => e = .returned (.int .u32 0) ∧ w' = w := by
  have h := of_any none c 0 [] w Rd.nil (by simp)
  have e : moreF 0 [] = 0 := by decide
  rw [e] at h
  exact h
set_option maxHeartbeats 400000 in
theorem sumNames_any (w : World) : Calls Try.prog 3 #[] w fun e w' => e = .returned (.bool true) ∧ Below w.heap.size w w' := by
  have kc := fun (w : World) (C : Array Value) (n c : Nat) => Lib.run_convert_bytes_const (P := Try.prog) w 24 5 C n c Try.underlying24 Try.underlying5
  go_enter Try.func3, Try.ntmps3
  go_wp2_with fail
  refine (of_nine _ _ _ _ (rd_newf w #[.int .u8 49, .int .u8 50, .int .u8 51, .int .u8 52, .int .u8 53, .int .u8 54, .int .u8 55, .int .u8 56, .int .u8 57] 5 _)).mono ?_
  rintro e w1 ⟨rfl, rfl⟩
  go_wp2_with fail
  refine (of_none _ _).mono ?_
  rintro e w2 ⟨rfl, rfl⟩
  go_wp2_with fail
  go_ret
  exact ⟨rfl, (Below.refl _ _).alloc (Nat.le_refl _) _⟩

set_option maxHeartbeats 400000 in
theorem sumMores_any (w : World) (s : Nat) (hsum : s < 4294967296) (A : Option Addr) (c : Nat) (l : List UInt8) (hs : Rd w w.heap.size A (bys l)) (hl : l.length ≤ 140737488351232) :
    Calls Try.prog 4 #[.int .u32 (s : Int), .slice A l.length c] w fun e w' => e = .returned (.bool true) ∧ Below w.heap.size w w' := by
  have HB0 : Hid (Below w.heap.size w (w.alloc (.cells #[] 5))) := (Below.refl _ _).alloc (Nat.le_refl _) _
  have HS := Lib.hid hsum; clear hsum
  go_enter Try.func4, Try.ntmps4
  go_wp2_with (at_builtin; go_loud (refine app_fresh Try.underlying24 infoByte rfl rfl 6 7 rfl rfl w.heap.size A l.length c (bys l) rfl (bys_len _) (hs.below HB0.out) bys_one (by omega) (by omega) ?_); intro A1 c1 w1 hr1 hc1 hb1; have HR1 := Lib.hid hr1; have HB1 := Lib.hid hb1; clear hr1 hb1)
  refine (sumNames_any _).mono ?_
  rintro e w2 ⟨rfl, hb2⟩
  have HB2 := Lib.hid (HB1.out.trans (hb2.mono HB1.out.size))
  have HR2 := Lib.hid (HR1.out.below hb2)
  clear hb2
  go_wp2_with fail
  refine (more_any A1 c1 _ s l _ HR2.out (by omega) HS.out).mono ?_
  rintro e w3 ⟨rfl, rfl⟩
  go_wp2_with fail
  refine (rmore_any A c _ s l _ (hs.below HB2.out) (by omega) HS.out).mono ?_
  rintro e w4 ⟨rfl, rfl⟩
  have hk1 := conv_bytes (c := c1) HR2.out
  have hk2 := conv_bytes (c := c) (hs.below HB2.out)
  have he := neq_self l
  have he2 : ((moreF s l : Int) == moreF s l) = true := by simp
  go_wp2_with fail
  go_ret
  exact ⟨rfl, HB2.out⟩

theorem sumMores_int (w : World) (x : Int) (hx : 0 ≤ x ∧ x < 4294967296) (A : Option Addr) (c : Nat) (l : List UInt8) (hs : Rd w w.heap.size A (bys l)) (hl : l.length ≤ 140737488351232) :
    Calls Try.prog 4 #[.int .u32 x, .slice A l.length c] w fun e w' => e = .returned (.bool true) ∧ Below w.heap.size w w' := by
  obtain ⟨s, rfl⟩ := Int.eq_ofNat_of_zero_le hx.1
  exact sumMores_any w s (by omega) A c l hs hl
set_option maxHeartbeats 400000 in
theorem sumParts_any (w : World) (A : Option Addr) (c : Nat) (l : List UInt8) (hs : Rd w w.heap.size A (bys l)) (A' : Option Addr) (c' : Nat) (m : List UInt8) (ht : Rd w w.heap.size A' (bys m)) (hl : l.length + m.length ≤ 140737488355328) :
    Calls Try.prog 5 #[.slice A l.length c, .slice A' m.length c'] w fun e w' => e = .returned (.bool true) ∧ Below w.heap.size w w' := by
  have HB0 : Hid (Below w.heap.size w (w.alloc (.cells #[] 5))) := (Below.refl _ _).alloc (Nat.le_refl _) _
  go_enter Try.func5, Try.ntmps5
  go_wp2_with (first
    | (at_builtin; go_loud (refine app_copy rfl 6 7 rfl rfl w.heap.size A l.length l.length c l rfl rfl rfl (hs.below HB0.out) (by omega) ?_); intro A1 c1 w1 hv1 hb1; have HV1 := Lib.hid hv1; have HB1 := Lib.hid hb1; clear hv1 hb1)
    | (at_builtin; go_loud (refine app_all Try.underlying24 infoByte rfl rfl 8 9 rfl w.heap.size _ l.length (bys l) rfl HV1.out w.heap.size A' m.length c' (bys m) rfl (bys_len _) (ht.below HB1.out) bys_one HB1.out.size (by omega) (by omega) ?_); intro v2 w2 hown hgr; obtain ⟨A2, c2, rfl, hR2, hc2⟩ := own_rd hown; have HB2 := Lib.hid (below_own HB1.out HV1.out (Nat.le_refl _) HB1.out.size hgr); have HR2 := Lib.hid hR2; clear hown hgr hR2))
  refine (sumNames_any _).mono ?_
  rintro e w3 ⟨rfl, hb3⟩
  have HB3 := Lib.hid (HB2.out.trans (hb3.mono HB2.out.size))
  have HR3 := Lib.hid (HR2.out.below hb3)
  clear hb3
  go_wp2_with fail
  refine (of_any A c _ l _ (hs.below HB3.out) (by omega)).mono ?_
  rintro e w4 ⟨rfl, rfl⟩
  go_wp2_with fail
  refine (more_any A' c' _ _ m _ (ht.below HB3.out) (by omega) (more_lt _ _)).mono ?_
  rintro e w5 ⟨rfl, rfl⟩
  go_wp2_with fail
  have hof := of_any A2 c2 _ (l ++ m) _ (by rw [bys_app]; exact HR3.out) (by rw [List.length_append]; omega)
  rw [List.length_append] at hof
  refine hof.mono ?_
  clear hof
  rintro e w6 ⟨rfl, rfl⟩
  have HP := Lib.hid (more_parts l m)
  rw [HP.out]
  have he2 : ((moreF 0 (l ++ m) : Int) == moreF 0 (l ++ m)) = true := by simp
  go_wp2_with fail
  go_ret
  exact ⟨rfl, HB3.out⟩
end Go.Proofs.Ytbnffcfnihepfaa
