/- Walks: unlike pointers have unlike bytes. -/
import Derived.Test.YtolinaijldmpnaaQ12
namespace Go.Proofs.Ytolinaijldmpnaa
open Go.RowKit

theorem bs_same {a b s a' b' s' : Int} (h : IsPtr a b s) (h' : IsPtr a' b' s') (hr : rightF a b s = true) (hr' : rightF a' b' s' = true) :
    (((strF (bsF a b s)).toList == (strF (bsF a' b' s')).toList) == (a == a' && b == b' && s == s')) = true := by
  rw [strF_list, strF_list, bs_inj h h' hr hr', beq_self_eq_true]
section
variable (w : World) {a b s a' b' s' : Int} (h : IsPtr a b s) (h' : IsPtr a' b' s')

include h h' in
set_option maxHeartbeats 400000 in
theorem ptrApart_n (hr : rightF a b s = false) :
    Calls Try.prog 8 #[ptv a b s, ptv a' b' s'] w fun e w' => e = .returned (.bool true) ∧ Below w.heap.size w w' := by
  have HA := Lib.hid alive_any
  have HR := Lib.hid (right_is hr)
  have HY := Lib.hid (bytes_n h hr)
  have HZ := Lib.hid (bytes_any h')
  clear h h' hr
  go_enter Try.func8, Try.ntmps8
  go_wp2_with fail
  have HK := Lib.hid (fun w1 => two_at (w := w) (w1 := w1) (a := a) (b := b) (s := s) (a' := a') (b' := b') (s' := s'))
  have hb0 : Below w.heap.size w ((w.alloc (pto a b s)).alloc (pto a' b' s')) := below_two' w _ _
  generalize (w.alloc (pto a b s)).alloc (pto a' b' s') = w0 at *
  have HB0 := Lib.hid hb0
  clear hb0
  refine (HA.out _).mono ?_
  rintro e w1 ⟨rfl, hb1⟩
  have HE1 := Lib.hid hb1
  have HK1 := Lib.hid (HK.out _ HE1.out)
  have c0 := HK1.out.1
  have c1 := HK1.out.2.1
  have c2 := HK1.out.2.2.1
  have c3 := HK1.out.2.2.2.1
  have c4 := HK1.out.2.2.2.2.1
  have c5 := HK1.out.2.2.2.2.2
  clear hb1 HK1
  go_wp2_with fail
  refine (HY.out _).mono ?_
  rintro e w2 ⟨A2, c2', rfl, hb2⟩
  have HE2 := Lib.hid (HE1.out.trans (hb2.mono HE1.out.size))
  have HK2 := Lib.hid (HK.out _ HE2.out)
  clear hb2 c0 c1 c2 c3 c4 c5
  have c0 := HK2.out.1
  have c1 := HK2.out.2.1
  have c2 := HK2.out.2.2.1
  have c3 := HK2.out.2.2.2.1
  have c4 := HK2.out.2.2.2.2.1
  have c5 := HK2.out.2.2.2.2.2
  clear HK2
  go_wp2_with fail
  refine (HZ.out _).mono ?_
  rintro e w3 ⟨A3, c3', rfl, -, -, hb3⟩
  have HE3 := Lib.hid (HE2.out.trans (hb3.mono HE2.out.size))
  have HK3 := Lib.hid (HK.out _ HE3.out)
  clear hb3 c0 c1 c2 c3 c4 c5
  have c0 := HK3.out.1
  have c1 := HK3.out.2.1
  have c2 := HK3.out.2.2.1
  have c3 := HK3.out.2.2.2.1
  have c4 := HK3.out.2.2.2.2.1
  have c5 := HK3.out.2.2.2.2.2
  clear HK3
  go_wp2_with fail
  refine (HR.out _).mono ?_
  rintro e w4 ⟨rfl, hb4⟩
  have HE4 := Lib.hid (HE3.out.trans (hb4.mono HE3.out.size))
  have HK4 := Lib.hid (HK.out _ HE4.out)
  clear hb4 c0 c1 c2 c3 c4 c5
  have c0 := HK4.out.1
  have c1 := HK4.out.2.1
  have c2 := HK4.out.2.2.1
  have c3 := HK4.out.2.2.2.1
  have c4 := HK4.out.2.2.2.2.1
  have c5 := HK4.out.2.2.2.2.2
  clear HK4
  go_wp2_with fail
  go_ret
  exact ⟨rfl, HB0.out.trans (HE4.out.mono HB0.out.size)⟩

include h h' in
set_option maxHeartbeats 400000 in
theorem ptrApart_yn (hr : rightF a b s = true) (hr' : rightF a' b' s' = false) :
    Calls Try.prog 8 #[ptv a b s, ptv a' b' s'] w fun e w' => e = .returned (.bool true) ∧ Below w.heap.size w w' := by
  have HA := Lib.hid alive_any
  have HR := Lib.hid (right_is hr)
  have HR' := Lib.hid (right_is hr')
  have HY := Lib.hid (bytes_r h hr)
  have HZ := Lib.hid (bytes_n h' hr')
  clear h h' hr hr'
  go_enter Try.func8, Try.ntmps8
  go_wp2_with fail
  have HK := Lib.hid (fun w1 => two_at (w := w) (w1 := w1) (a := a) (b := b) (s := s) (a' := a') (b' := b') (s' := s'))
  have hb0 : Below w.heap.size w ((w.alloc (pto a b s)).alloc (pto a' b' s')) := below_two' w _ _
  generalize (w.alloc (pto a b s)).alloc (pto a' b' s') = w0 at *
  have HB0 := Lib.hid hb0
  clear hb0
  refine (HA.out _).mono ?_
  rintro e w1 ⟨rfl, hb1⟩
  have HE1 := Lib.hid hb1
  have HK1 := Lib.hid (HK.out _ HE1.out)
  have c0 := HK1.out.1
  have c1 := HK1.out.2.1
  have c2 := HK1.out.2.2.1
  have c3 := HK1.out.2.2.2.1
  have c4 := HK1.out.2.2.2.2.1
  have c5 := HK1.out.2.2.2.2.2
  clear hb1 HK1
  go_wp2_with fail
  refine (HY.out _).mono ?_
  rintro e w2 ⟨A2, c2', rfl, hr2, -, hb2⟩
  have HE2 := Lib.hid (HE1.out.trans (hb2.mono HE1.out.size))
  have HK2 := Lib.hid (HK.out _ HE2.out)
  clear hb2 c0 c1 c2 c3 c4 c5 hr2
  have c0 := HK2.out.1
  have c1 := HK2.out.2.1
  have c2 := HK2.out.2.2.1
  have c3 := HK2.out.2.2.2.1
  have c4 := HK2.out.2.2.2.2.1
  have c5 := HK2.out.2.2.2.2.2
  clear HK2
  go_wp2_with fail
  refine (HZ.out _).mono ?_
  rintro e w3 ⟨A3, c3', rfl, hb3⟩
  have HE3 := Lib.hid (HE2.out.trans (hb3.mono HE2.out.size))
  have HK3 := Lib.hid (HK.out _ HE3.out)
  clear hb3 c0 c1 c2 c3 c4 c5
  have c0 := HK3.out.1
  have c1 := HK3.out.2.1
  have c2 := HK3.out.2.2.1
  have c3 := HK3.out.2.2.2.1
  have c4 := HK3.out.2.2.2.2.1
  have c5 := HK3.out.2.2.2.2.2
  clear HK3
  go_wp2_with fail
  refine (HR.out _).mono ?_
  rintro e w4 ⟨rfl, hb4⟩
  have HE4 := Lib.hid (HE3.out.trans (hb4.mono HE3.out.size))
  have HK4 := Lib.hid (HK.out _ HE4.out)
  clear hb4 c0 c1 c2 c3 c4 c5
  have c0 := HK4.out.1
  have c1 := HK4.out.2.1
  have c2 := HK4.out.2.2.1
  have c3 := HK4.out.2.2.2.1
  have c4 := HK4.out.2.2.2.2.1
  have c5 := HK4.out.2.2.2.2.2
  clear HK4
  go_wp2_with fail
  refine (HR'.out _).mono ?_
  rintro e w5 ⟨rfl, hb5⟩
  have HE5 := Lib.hid (HE4.out.trans (hb5.mono HE4.out.size))
  clear hb5
  go_wp2_with fail
  go_ret
  exact ⟨rfl, HB0.out.trans (HE5.out.mono HB0.out.size)⟩

include h h' in
set_option maxHeartbeats 400000 in
theorem ptrApart_yy (hr : rightF a b s = true) (hr' : rightF a' b' s' = true) :
    Calls Try.prog 8 #[ptv a b s, ptv a' b' s'] w fun e w' => e = .returned (.bool true) ∧ Below w.heap.size w w' := by
  have HA := Lib.hid alive_any
  have HR := Lib.hid (right_is hr)
  have HR' := Lib.hid (right_is hr')
  have HY := Lib.hid (bytes_r h hr)
  have HZ := Lib.hid (bytes_r h' hr')
  have L1 := Lib.hid (back_ptr h hr).2.2.2.2.2
  have L2 := Lib.hid (back_ptr h' hr').2.2.2.2.2
  have HF := Lib.hid (bs_same h h' hr hr')
  have hq := run_eqP a b s a' b' s'
  clear h h' hr hr'
  go_enter Try.func8, Try.ntmps8
  go_wp2_with fail
  have HK := Lib.hid (fun w1 => two_at (w := w) (w1 := w1) (a := a) (b := b) (s := s) (a' := a') (b' := b') (s' := s'))
  have hb0 : Below w.heap.size w ((w.alloc (pto a b s)).alloc (pto a' b' s')) := below_two' w _ _
  generalize (w.alloc (pto a b s)).alloc (pto a' b' s') = w0 at *
  have HB0 := Lib.hid hb0
  clear hb0
  refine (HA.out _).mono ?_
  rintro e w1 ⟨rfl, hb1⟩
  have HE1 := Lib.hid hb1
  have HK1 := Lib.hid (HK.out _ HE1.out)
  have c0 := HK1.out.1
  have c1 := HK1.out.2.1
  have c2 := HK1.out.2.2.1
  have c3 := HK1.out.2.2.2.1
  have c4 := HK1.out.2.2.2.2.1
  have c5 := HK1.out.2.2.2.2.2
  clear hb1 HK1
  go_wp2_with fail
  refine (HY.out _).mono ?_
  rintro e w2 ⟨A2, c2', rfl, hr2, -, hb2⟩
  have HE2 := Lib.hid (HE1.out.trans (hb2.mono HE1.out.size))
  have HK2 := Lib.hid (HK.out _ HE2.out)
  have HR2 := Lib.hid hr2
  clear hb2 c0 c1 c2 c3 c4 c5 hr2
  have c0 := HK2.out.1
  have c1 := HK2.out.2.1
  have c2 := HK2.out.2.2.1
  have c3 := HK2.out.2.2.2.1
  have c4 := HK2.out.2.2.2.2.1
  have c5 := HK2.out.2.2.2.2.2
  clear HK2
  go_wp2_with fail
  refine (HZ.out _).mono ?_
  rintro e w3 ⟨A3, c3', rfl, hr3, -, hb3⟩
  have HE3 := Lib.hid (HE2.out.trans (hb3.mono HE2.out.size))
  have HK3 := Lib.hid (HK.out _ HE3.out)
  have hk1 := fun n => conv_bytes (w := w3.drewN n) (c := c2') (HR2.out.below (below_draws hb3 n))
  have hk2 := fun n => conv_bytes (w := w3.drewN n) (c := c3') (hr3.below (below_draws (Below.refl _ _) n))
  rw [L1.out] at hk1
  rw [L2.out] at hk2
  clear hr3
  clear hb3 c0 c1 c2 c3 c4 c5
  have c0 := HK3.out.1
  have c1 := HK3.out.2.1
  have c2 := HK3.out.2.2.1
  have c3 := HK3.out.2.2.2.1
  have c4 := HK3.out.2.2.2.2.1
  have c5 := HK3.out.2.2.2.2.2
  clear HK3
  go_wp2_with fail
  go_quiet (fail)
  go_wp2_with fail
  go_ret
  exact ⟨ret_bool HF.out, below_draws (HB0.out.trans (HE3.out.mono HB0.out.size)) _⟩

include h h' in
theorem ptrApart_any : Calls Try.prog 8 #[ptv a b s, ptv a' b' s'] w fun e w' => e = .returned (.bool true) ∧ Below w.heap.size w w' := by
  rcases hr : rightF a b s with _ | _
  · exact ptrApart_n w h h' hr
  · rcases hr' : rightF a' b' s' with _ | _
    · exact ptrApart_yn w h h' hr hr'
    · exact ptrApart_yy w h h' hr hr'
end
end Go.Proofs.Ytolinaijldmpnaa
