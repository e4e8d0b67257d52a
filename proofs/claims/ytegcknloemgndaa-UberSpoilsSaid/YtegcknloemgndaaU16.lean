/- Walks: the law on ubers apart. Printed by genu16.py. -/
import Derived.Test.YtegcknloemgndaaU15
set_option maxRecDepth 10000
namespace Go.Proofs.Ytegcknloemgndaa
open Go.RowKit

theorem sec_same (u v : Ub) (hu : rightU u = true) (hv : rightU v = true) : (secU u).same (secU v) = u.same v := by
  rcases h : u.same v with _ | _
  · rcases h2 : (secU u).same (secU v) with _ | _
    · rfl
    · have := secU_inj hu hv (Sec.same_iff.1 h2)
      rw [Ub.same_iff.2 this] at h
      cases h
  · rw [Ub.same_iff.1 h]
    exact Sec.same_self _
theorem two_ub (w : World) (u v : Ub) : Blk ((w.alloc (.cells u.cs.toArray 27)).alloc (.cells v.cs.toArray 27)) w.heap.size 27 u.cs.toArray ∧
    Blk ((w.alloc (.cells u.cs.toArray 27)).alloc (.cells v.cs.toArray 27)) (w.heap.size + 1) 27 v.cs.toArray := by
  have h2 := ub_new (w.alloc (.cells u.cs.toArray 27)) v
  rw [show (w.alloc (.cells u.cs.toArray 27)).heap.size = w.heap.size + 1 by simp] at h2
  exact ⟨(ub_new w u).below ((Below.refl (w.alloc (.cells u.cs.toArray 27)).heap.size _).alloc (Nat.le_refl _) _) (by simp), h2⟩
/-- Two ubers lie in blocks of the call's own. -/
structure BaseU (w w' : World) (u v : Ub) : Prop where
  one : Blk w' w.heap.size 27 u.cs.toArray
  two : Blk w' (w.heap.size + 1) 27 v.cs.toArray
  below : Below w.heap.size w w'
theorem BaseU.next {w w' w'' : World} {u v : Ub} (h : BaseU w w' u v) (hb : Below w'.heap.size w' w'') : BaseU w w'' u v :=
  ⟨h.one.below hb h.one.lt, h.two.below hb h.two.lt, h.below.trans (hb.mono h.below.size)⟩
theorem baseU_new (w : World) (u v : Ub) : BaseU w ((w.alloc (.cells u.cs.toArray 27)).alloc (.cells v.cs.toArray 27)) u v :=
  ⟨(two_ub w u v).1, (two_ub w u v).2, ((Below.refl w.heap.size w).alloc (Nat.le_refl _) _).alloc (by simp) _⟩
theorem new_sec {w w' : World} {x : Sec} (h : w' = (w.alloc (.cells zsec.cs.toArray 34)).setCells w.heap.size 0 x.cs) : Blk w' w.heap.size 34 x.cs.toArray ∧ Below w.heap.size w w' := by
  subst h
  exact ⟨Blk.secAll (s := zsec) (Blk.new w _ _) x, Below.setCells _ (Nat.le_refl _) _ _ ((Below.refl _ _).alloc (Nat.le_refl _) _)⟩
theorem new_ub {w w' : World} {x : Ub} (h : w' = (w.alloc (.cells zub.cs.toArray 27)).setCells w.heap.size 0 x.cs) : Blk w' w.heap.size 27 x.cs.toArray ∧ Below w.heap.size w w' := by
  subst h
  exact ⟨Blk.ubAll (u := zub) (Blk.new w _ _) x, Below.setCells _ (Nat.le_refl _) _ _ ((Below.refl _ _).alloc (Nat.le_refl _) _)⟩
section
variable (u v : Ub) (w : World)

set_option maxHeartbeats 2000000 in
theorem apart_ff (hu : rightU u = false) (hv : rightU v = false) : Calls Try.prog 8 #[.agg u.cs.toArray, .agg v.cs.toArray] w fun e w' => e = .returned (.bool true) ∧ Below w.heap.size w w' := by
  have hz : ∀ w, Sem.run Try.prog (zeroValue 27) w = .ok (.agg zub.cs.toArray) w := zeroUb
  have hzs : ∀ w, Sem.run Try.prog (zeroValue 34) w = .ok (.agg zsec.cs.toArray) w := zeroSec
  have HAL := Lib.hid alive_any
  have HB0 := Lib.hid (baseU_new w u v)
  have HY1 := Lib.hid (ubytes_any u)
  have HY2 := Lib.hid (ubytes_any v)
  have HR1 := Lib.hid (uright_any u)
  have HR2 := Lib.hid (uright_any v)
  rw [bytesS_f hu, bytesC_f hu] at HY1
  rw [bytesS_f hv, bytesC_f hv] at HY2
  rw [hu] at HR1
  rw [hv] at HR2
  clear hu hv
  go_enter Try.func8, Try.ntmps8
  go_wp2_with (first
    | (go_at_call 11; with_reducible refine Calls.mono (HAL.out _) ?_; rintro e w1 ⟨rfl, hb1⟩; have HB1 := Lib.hid (HB0.out.next hb1); clear hb1)
    | (with_reducible refine ld_ub rfl _ rfl w.heap.size 0 u rfl HB1.out.one.ubIs ?_)
    | (go_at_call 12; with_reducible refine Calls.mono (HY1.out _) ?_; rintro e w2 ⟨rfl, hb2⟩; have HB2 := Lib.hid (HB1.out.next hb2); clear hb2 HB1)
    | (with_reducible refine st_sec rfl _ _ rfl w2.heap.size 0 zsec rfl rfl (Blk.secHas (s := zsec) (Blk.new w2 _ _)) ?_; intro w3 hw3
       have HX3 := Lib.hid (new_sec hw3.out).1
       have HB3 := Lib.hid (HB2.out.next (new_sec hw3.out).2)
       clear HB2)
    | (with_reducible refine ld_ub rfl _ rfl (w.heap.size + 1) 0 v rfl HB3.out.two.ubIs ?_)
    | (go_at_call 12; with_reducible refine Calls.mono (HY2.out _) ?_; rintro e w4 ⟨rfl, hb4⟩; have HB4 := Lib.hid (HB3.out.next hb4); have HX4 := Lib.hid (HX3.out.below hb4 HX3.out.lt); clear hb4 HB3 HX3)
    | (with_reducible refine st_sec rfl _ _ rfl w4.heap.size 0 zsec rfl rfl (Blk.secHas (s := zsec) (Blk.new w4 _ _)) ?_; intro w5 hw5
       have HZ5 := Lib.hid (new_sec hw5.out).1
       have HB5 := Lib.hid (HB4.out.next (new_sec hw5.out).2)
       have HX5 := Lib.hid (HX4.out.below (new_sec hw5.out).2 HX4.out.lt)
       clear HB4 HX4)
    | (with_reducible refine ld_ub rfl _ rfl w.heap.size 0 u rfl HB5.out.one.ubIs ?_)
    | (go_at_call 16; with_reducible refine Calls.mono (HR1.out _) ?_; rintro e w6 ⟨rfl, hb6⟩; have HB6 := Lib.hid (HB5.out.next hb6); clear hb6)
    | (refine wpList_val (by rfl) _ (ex_ldU (.tmp 3) rfl (w.heap.size + 1) 0 v rfl HB6.out.two.ubIs) ?_)
    | (go_at_call 16; with_reducible refine Calls.mono (HR2.out _) ?_; rintro e w7 ⟨rfl, hb7⟩; have HB7 := Lib.hid (HB6.out.next hb7); clear hb7))
  go_ret
  exact ⟨rfl, HB7.out.below⟩
set_option maxHeartbeats 2000000 in
theorem apart_ft (hu : rightU u = false) (hv : rightU v = true) : Calls Try.prog 8 #[.agg u.cs.toArray, .agg v.cs.toArray] w fun e w' => e = .returned (.bool true) ∧ Below w.heap.size w w' := by
  have hz : ∀ w, Sem.run Try.prog (zeroValue 27) w = .ok (.agg zub.cs.toArray) w := zeroUb
  have hzs : ∀ w, Sem.run Try.prog (zeroValue 34) w = .ok (.agg zsec.cs.toArray) w := zeroSec
  have HAL := Lib.hid alive_any
  have HB0 := Lib.hid (baseU_new w u v)
  have HY1 := Lib.hid (ubytes_any u)
  have HY2 := Lib.hid (ubytes_any v)
  have HR1 := Lib.hid (uright_any u)
  have HR2 := Lib.hid (uright_any v)
  rw [bytesS_f hu, bytesC_f hu] at HY1
  rw [bytesS_t hv, bytesC_t hv] at HY2
  rw [hu] at HR1
  rw [hv] at HR2
  clear hu hv
  go_enter Try.func8, Try.ntmps8
  go_wp2_with (first
    | (go_at_call 11; with_reducible refine Calls.mono (HAL.out _) ?_; rintro e w1 ⟨rfl, hb1⟩; have HB1 := Lib.hid (HB0.out.next hb1); clear hb1)
    | (with_reducible refine ld_ub rfl _ rfl w.heap.size 0 u rfl HB1.out.one.ubIs ?_)
    | (go_at_call 12; with_reducible refine Calls.mono (HY1.out _) ?_; rintro e w2 ⟨rfl, hb2⟩; have HB2 := Lib.hid (HB1.out.next hb2); clear hb2 HB1)
    | (with_reducible refine st_sec rfl _ _ rfl w2.heap.size 0 zsec rfl rfl (Blk.secHas (s := zsec) (Blk.new w2 _ _)) ?_; intro w3 hw3
       have HX3 := Lib.hid (new_sec hw3.out).1
       have HB3 := Lib.hid (HB2.out.next (new_sec hw3.out).2)
       clear HB2)
    | (with_reducible refine ld_ub rfl _ rfl (w.heap.size + 1) 0 v rfl HB3.out.two.ubIs ?_)
    | (go_at_call 12; with_reducible refine Calls.mono (HY2.out _) ?_; rintro e w4 ⟨rfl, hb4⟩; have HB4 := Lib.hid (HB3.out.next hb4); have HX4 := Lib.hid (HX3.out.below hb4 HX3.out.lt); clear hb4 HB3 HX3)
    | (with_reducible refine st_sec rfl _ _ rfl w4.heap.size 0 (secU v) rfl rfl (Blk.secHas (s := zsec) (Blk.new w4 _ _)) ?_; intro w5 hw5
       have HZ5 := Lib.hid (new_sec hw5.out).1
       have HB5 := Lib.hid (HB4.out.next (new_sec hw5.out).2)
       have HX5 := Lib.hid (HX4.out.below (new_sec hw5.out).2 HX4.out.lt)
       clear HB4 HX4)
    | (with_reducible refine ld_ub rfl _ rfl w.heap.size 0 u rfl HB5.out.one.ubIs ?_)
    | (go_at_call 16; with_reducible refine Calls.mono (HR1.out _) ?_; rintro e w6 ⟨rfl, hb6⟩; have HB6 := Lib.hid (HB5.out.next hb6); clear hb6)
    | (refine wpList_val (by rfl) _ (ex_ldU (.tmp 3) rfl (w.heap.size + 1) 0 v rfl HB6.out.two.ubIs) ?_)
    | (go_at_call 16; with_reducible refine Calls.mono (HR2.out _) ?_; rintro e w7 ⟨rfl, hb7⟩; have HB7 := Lib.hid (HB6.out.next hb7); clear hb7))
  go_ret
  exact ⟨rfl, HB7.out.below⟩
set_option maxHeartbeats 2000000 in
theorem apart_tf (hu : rightU u = true) (hv : rightU v = false) : Calls Try.prog 8 #[.agg u.cs.toArray, .agg v.cs.toArray] w fun e w' => e = .returned (.bool true) ∧ Below w.heap.size w w' := by
  have hz : ∀ w, Sem.run Try.prog (zeroValue 27) w = .ok (.agg zub.cs.toArray) w := zeroUb
  have hzs : ∀ w, Sem.run Try.prog (zeroValue 34) w = .ok (.agg zsec.cs.toArray) w := zeroSec
  have HAL := Lib.hid alive_any
  have HB0 := Lib.hid (baseU_new w u v)
  have HY1 := Lib.hid (ubytes_any u)
  have HY2 := Lib.hid (ubytes_any v)
  have HR1 := Lib.hid (uright_any u)
  have HR2 := Lib.hid (uright_any v)
  rw [bytesS_t hu, bytesC_t hu] at HY1
  rw [bytesS_f hv, bytesC_f hv] at HY2
  rw [hu] at HR1
  rw [hv] at HR2
  clear hu hv
  go_enter Try.func8, Try.ntmps8
  go_wp2_with (first
    | (go_at_call 11; with_reducible refine Calls.mono (HAL.out _) ?_; rintro e w1 ⟨rfl, hb1⟩; have HB1 := Lib.hid (HB0.out.next hb1); clear hb1)
    | (with_reducible refine ld_ub rfl _ rfl w.heap.size 0 u rfl HB1.out.one.ubIs ?_)
    | (go_at_call 12; with_reducible refine Calls.mono (HY1.out _) ?_; rintro e w2 ⟨rfl, hb2⟩; have HB2 := Lib.hid (HB1.out.next hb2); clear hb2 HB1)
    | (with_reducible refine st_sec rfl _ _ rfl w2.heap.size 0 (secU u) rfl rfl (Blk.secHas (s := zsec) (Blk.new w2 _ _)) ?_; intro w3 hw3
       have HX3 := Lib.hid (new_sec hw3.out).1
       have HB3 := Lib.hid (HB2.out.next (new_sec hw3.out).2)
       clear HB2)
    | (with_reducible refine ld_ub rfl _ rfl (w.heap.size + 1) 0 v rfl HB3.out.two.ubIs ?_)
    | (go_at_call 12; with_reducible refine Calls.mono (HY2.out _) ?_; rintro e w4 ⟨rfl, hb4⟩; have HB4 := Lib.hid (HB3.out.next hb4); have HX4 := Lib.hid (HX3.out.below hb4 HX3.out.lt); clear hb4 HB3 HX3)
    | (with_reducible refine st_sec rfl _ _ rfl w4.heap.size 0 zsec rfl rfl (Blk.secHas (s := zsec) (Blk.new w4 _ _)) ?_; intro w5 hw5
       have HZ5 := Lib.hid (new_sec hw5.out).1
       have HB5 := Lib.hid (HB4.out.next (new_sec hw5.out).2)
       have HX5 := Lib.hid (HX4.out.below (new_sec hw5.out).2 HX4.out.lt)
       clear HB4 HX4)
    | (with_reducible refine ld_ub rfl _ rfl w.heap.size 0 u rfl HB5.out.one.ubIs ?_)
    | (go_at_call 16; with_reducible refine Calls.mono (HR1.out _) ?_; rintro e w6 ⟨rfl, hb6⟩; have HB6 := Lib.hid (HB5.out.next hb6); clear hb6)
    | (refine wpList_val (by rfl) _ (ex_ldU (.tmp 3) rfl (w.heap.size + 1) 0 v rfl HB6.out.two.ubIs) ?_)
    | (go_at_call 16; with_reducible refine Calls.mono (HR2.out _) ?_; rintro e w7 ⟨rfl, hb7⟩; have HB7 := Lib.hid (HB6.out.next hb7); clear hb7))
  go_ret
  exact ⟨rfl, HB7.out.below⟩
set_option maxHeartbeats 2000000 in
theorem apart_tt (hu : rightU u = true) (hv : rightU v = true) : Calls Try.prog 8 #[.agg u.cs.toArray, .agg v.cs.toArray] w fun e w' => e = .returned (.bool true) ∧ Below w.heap.size w w' := by
  have hz : ∀ w, Sem.run Try.prog (zeroValue 27) w = .ok (.agg zub.cs.toArray) w := zeroUb
  have hzs : ∀ w, Sem.run Try.prog (zeroValue 34) w = .ok (.agg zsec.cs.toArray) w := zeroSec
  have HAL := Lib.hid alive_any
  have HB0 := Lib.hid (baseU_new w u v)
  have HY1 := Lib.hid (ubytes_any u)
  have HY2 := Lib.hid (ubytes_any v)
  have HR1 := Lib.hid (uright_any u)
  have HR2 := Lib.hid (uright_any v)
  rw [bytesS_t hu, bytesC_t hu] at HY1
  rw [bytesS_t hv, bytesC_t hv] at HY2
  rw [hu] at HR1
  rw [hv] at HR2
  have HV := Lib.hid (uread_any (secU u))
  rw [readV_sec u hu, readB_sec u hu] at HV
  have HSS := Lib.hid (sec_same u v hu hv)
  have HUU := Lib.hid (Ub.same_self u)
  clear hu hv
  generalize secU u = x at *
  generalize secU v = y at *
  go_enter Try.func8, Try.ntmps8
  go_wp2_with (first
    | (go_at_call 11; with_reducible refine Calls.mono (HAL.out _) ?_; rintro e w1 ⟨rfl, hb1⟩; have HB1 := Lib.hid (HB0.out.next hb1); clear hb1)
    | (with_reducible refine ld_ub rfl _ rfl w.heap.size 0 u rfl HB1.out.one.ubIs ?_)
    | (go_at_call 12; with_reducible refine Calls.mono (HY1.out _) ?_; rintro e w2 ⟨rfl, hb2⟩; have HB2 := Lib.hid (HB1.out.next hb2); clear hb2 HB1)
    | (with_reducible refine st_sec rfl _ _ rfl w2.heap.size 0 x rfl rfl (Blk.secHas (s := zsec) (Blk.new w2 _ _)) ?_; intro w3 hw3
       have HX3 := Lib.hid (new_sec hw3.out).1
       have HB3 := Lib.hid (HB2.out.next (new_sec hw3.out).2)
       clear HB2)
    | (with_reducible refine ld_ub rfl _ rfl (w.heap.size + 1) 0 v rfl HB3.out.two.ubIs ?_)
    | (go_at_call 12; with_reducible refine Calls.mono (HY2.out _) ?_; rintro e w4 ⟨rfl, hb4⟩; have HB4 := Lib.hid (HB3.out.next hb4); have HX4 := Lib.hid (HX3.out.below hb4 HX3.out.lt); clear hb4 HB3 HX3)
    | (with_reducible refine st_sec rfl _ _ rfl w4.heap.size 0 y rfl rfl (Blk.secHas (s := zsec) (Blk.new w4 _ _)) ?_; intro w5 hw5
       have HZ5 := Lib.hid (new_sec hw5.out).1
       have HB5 := Lib.hid (HB4.out.next (new_sec hw5.out).2)
       have HX5 := Lib.hid (HX4.out.below (new_sec hw5.out).2 HX4.out.lt)
       clear HB4 HX4)
    | (with_reducible refine ld_sec rfl _ rfl w2.heap.size 0 x rfl HX5.out.secIs ?_)
    | (go_at_call 14; with_reducible refine Calls.mono (HV.out _) ?_; rintro e w6 ⟨rfl, hb6⟩; have HB6 := Lib.hid (HB5.out.next hb6); have HX6 := Lib.hid (HX5.out.below hb6 HX5.out.lt); have HZ6 := Lib.hid (HZ5.out.below hb6 HZ5.out.lt); clear hb6)
    | (with_reducible refine st_ub rfl _ _ rfl w6.heap.size 0 u rfl rfl (Blk.ubHas (u := zub) (Blk.new w6 _ _)) ?_; intro w7 hw7
       have hb7 := (new_ub hw7.out).2
       have HU7 := Lib.hid (new_ub hw7.out).1
       have HB7 := Lib.hid (HB6.out.next hb7)
       have HX7 := Lib.hid (HX6.out.below hb7 HX6.out.lt)
       have HZ7 := Lib.hid (HZ6.out.below hb7 HZ6.out.lt)
       clear hb7))
  have hS1 : Hid ((fun w' => w'.rangeAt w2.heap.size 0 x.cs ∧ w'.rangeAt w4.heap.size 0 y.cs ∧ w'.rangeAt w.heap.size 0 u.cs ∧ w'.rangeAt (w.heap.size + 1) 0 v.cs ∧ w'.rangeAt w6.heap.size 0 u.cs) w7.drew) := ⟨HX7.out.secIs, HZ7.out.secIs, HB7.out.one.ubIs, HB7.out.two.ubIs, HU7.out.ubIs⟩
  have HB8 := Lib.hid HB7.out.below.drew
  clear HB5 HB6 HB7 HX5 HX6 HX7 HZ5 HZ6 HZ7 HU7 hw3 hw5 hw7 HY1 HY2 HR1 HR2 HV HB0 HAL hz hzs
  refine wp_region_held_drew (S := (fun w' => w'.rangeAt w2.heap.size 0 x.cs ∧ w'.rangeAt w4.heap.size 0 y.cs ∧ w'.rangeAt w.heap.size 0 u.cs ∧ w'.rangeAt (w.heap.size + 1) 0 v.cs ∧ w'.rangeAt w6.heap.size 0 u.cs)) (by kernel_rfl) hS1.out (fun hHeld => ?_)
  clear hS1
  generalize w7.drew = w8 at *
  rcases hs : u.same v with _ | _
  all_goals rw [hs] at HSS
  case false =>
    refine wpAnyH_take (i := 0) (v := (.agg x.cs.toArray)) rfl (by kernel_rfl) (by kernel_rfl) (by kernel_rfl) (fun _ _ _ h => h) (Or.inl ⟨by rfl, ?_⟩) (by assumption) ?_
    · intro w' hS
      exact ex_ld (.tmp 5) rfl w2.heap.size 0 x rfl hS.1
    try simp [Act.put]
    refine wpAnyH_take (i := 1) (v := (.agg y.cs.toArray)) rfl (by kernel_rfl) (by kernel_rfl) (by kernel_rfl) (fun _ _ _ h => h) (Or.inl ⟨by rfl, ?_⟩) (by assumption) ?_
    · intro w' hS
      exact ex_ld (.tmp 7) rfl w4.heap.size 0 y rfl hS.2.1
    try simp [Act.put]
    refine wpAnyH_take (i := 2) (v := (.bool false)) rfl (by kernel_rfl) (by kernel_rfl) (by kernel_rfl) (fun _ _ _ h => h) (Or.inl ⟨by rfl, ?_⟩) (by assumption) ?_
    · intro w' hS
      refine (ex_eqS (.tmp 46) (.tmp 47) rfl x y rfl rfl).trans ?_
      rw [HSS.out]
    try simp [Act.put]
    refine wpAnyH_take (i := 3) (v := (.agg u.cs.toArray)) rfl (by kernel_rfl) (by kernel_rfl) (by kernel_rfl) (fun _ _ _ h => h) (Or.inl ⟨by rfl, ?_⟩) (by assumption) ?_
    · intro w' hS
      exact ex_ldU (.tmp 2) rfl w.heap.size 0 u rfl hS.2.2.1
    try simp [Act.put]
    refine wpAnyH_take (i := 4) (v := (.agg v.cs.toArray)) rfl (by kernel_rfl) (by kernel_rfl) (by kernel_rfl) (fun _ _ _ h => h) (Or.inl ⟨by rfl, ?_⟩) (by assumption) ?_
    · intro w' hS
      exact ex_ldU (.tmp 3) rfl (w.heap.size + 1) 0 v rfl hS.2.2.2.1
    try simp [Act.put]
    refine wpAnyH_take (i := 5) (v := (.bool false)) rfl (by kernel_rfl) (by kernel_rfl) (by kernel_rfl) (fun _ _ _ h => h) (Or.inl ⟨by rfl, ?_⟩) (by assumption) ?_
    · intro w' hS
      refine (ex_eqU (.tmp 49) (.tmp 50) rfl u v rfl rfl).trans ?_
      rw [hs]
    try simp [Act.put]
    refine wpAnyH_take (i := 6) (v := (.bool true)) rfl (by kernel_rfl) (by kernel_rfl) (by kernel_rfl) (fun _ _ _ h => h) (Or.inl ⟨by rfl, ?_⟩) (by assumption) ?_
    · intro w' hS; go_simp; try with_reducible rfl
    try simp [Act.put]
    refine wpAnyH_take (i := 7) (v := (.bool true)) rfl (by kernel_rfl) (by kernel_rfl) (by kernel_rfl) (fun _ _ _ h => h) (Or.inl ⟨by rfl, ?_⟩) (by assumption) ?_
    · intro w' hS; go_simp; try with_reducible rfl
    try simp [Act.put]
    refine wpAnyH_take (i := 8) (v := (.bool true)) rfl (by kernel_rfl) (by kernel_rfl) (by kernel_rfl) (fun _ _ _ h => h) (Or.inl ⟨by rfl, ?_⟩) (by assumption) ?_
    · intro w' hS; go_simp; try with_reducible rfl
    try simp [Act.put]
    refine wpAnyH_take (i := 9) (v := (.bool true)) rfl (by kernel_rfl) (by kernel_rfl) (by kernel_rfl) (fun _ _ _ h => h) (Or.inl ⟨by rfl, ?_⟩) (by assumption) ?_
    · intro w' hS; go_simp; try with_reducible rfl
    try simp [Act.put]
    refine wpAnyH_take (i := 10) (v := (.bool true)) rfl (by kernel_rfl) (by kernel_rfl) (by kernel_rfl) (fun _ _ _ h => h) (Or.inl ⟨by rfl, ?_⟩) (by assumption) ?_
    · intro w' hS; go_simp; try with_reducible rfl
    try simp [Act.put]
    refine wpAnyH_take (i := 11) (v := (.agg u.cs.toArray)) rfl (by kernel_rfl) (by kernel_rfl) (by kernel_rfl) (fun _ _ _ h => h) (Or.inl ⟨by rfl, ?_⟩) (by assumption) ?_
    · intro w' hS
      exact ex_ldU (.tmp 9) rfl w6.heap.size 0 u rfl hS.2.2.2.2
    try simp [Act.put]
    refine wpAnyH_take (i := 12) (v := (.agg u.cs.toArray)) rfl (by kernel_rfl) (by kernel_rfl) (by kernel_rfl) (fun _ _ _ h => h) (Or.inl ⟨by rfl, ?_⟩) (by assumption) ?_
    · intro w' hS
      exact ex_ldU (.tmp 2) rfl w.heap.size 0 u rfl hS.2.2.1
    try simp [Act.put]
    refine wpAnyH_take (i := 13) (v := (.bool true)) rfl (by kernel_rfl) (by kernel_rfl) (by kernel_rfl) (fun _ _ _ h => h) (Or.inl ⟨by rfl, ?_⟩) (by assumption) ?_
    · intro w' hS
      refine (ex_eqU (.tmp 57) (.tmp 58) rfl u u rfl rfl).trans ?_
      rw [HUU.out]
    try simp [Act.put]
    refine wpAnyH_take (i := 14) (v := (.bool true)) rfl (by kernel_rfl) (by kernel_rfl) (by kernel_rfl) (fun _ _ _ h => h) (Or.inl ⟨by rfl, ?_⟩) (by assumption) ?_
    · intro w' hS; go_simp; try with_reducible rfl
    try simp [Act.put]
    refine wpAnyH_take (i := 15) (v := (.bool true)) rfl (by kernel_rfl) (by kernel_rfl) (by kernel_rfl) (fun _ _ _ h => h) (Or.inl ⟨by rfl, ?_⟩) (by assumption) ?_
    · intro w' hS; go_simp; try with_reducible rfl
    try simp [Act.put]
    refine wpAnyH_done (by kernel_rfl) ?_ _
    clear hs hHeld
    go_wp2_with fail
    go_ret
    exact ⟨rfl, HB8.out⟩
  case true =>
    refine wpAnyH_take (i := 0) (v := (.agg x.cs.toArray)) rfl (by kernel_rfl) (by kernel_rfl) (by kernel_rfl) (fun _ _ _ h => h) (Or.inl ⟨by rfl, ?_⟩) (by assumption) ?_
    · intro w' hS
      exact ex_ld (.tmp 5) rfl w2.heap.size 0 x rfl hS.1
    try simp [Act.put]
    refine wpAnyH_take (i := 1) (v := (.agg y.cs.toArray)) rfl (by kernel_rfl) (by kernel_rfl) (by kernel_rfl) (fun _ _ _ h => h) (Or.inl ⟨by rfl, ?_⟩) (by assumption) ?_
    · intro w' hS
      exact ex_ld (.tmp 7) rfl w4.heap.size 0 y rfl hS.2.1
    try simp [Act.put]
    refine wpAnyH_take (i := 2) (v := (.bool true)) rfl (by kernel_rfl) (by kernel_rfl) (by kernel_rfl) (fun _ _ _ h => h) (Or.inl ⟨by rfl, ?_⟩) (by assumption) ?_
    · intro w' hS
      refine (ex_eqS (.tmp 46) (.tmp 47) rfl x y rfl rfl).trans ?_
      rw [HSS.out]
    try simp [Act.put]
    refine wpAnyH_take (i := 3) (v := (.agg u.cs.toArray)) rfl (by kernel_rfl) (by kernel_rfl) (by kernel_rfl) (fun _ _ _ h => h) (Or.inl ⟨by rfl, ?_⟩) (by assumption) ?_
    · intro w' hS
      exact ex_ldU (.tmp 2) rfl w.heap.size 0 u rfl hS.2.2.1
    try simp [Act.put]
    refine wpAnyH_take (i := 4) (v := (.agg v.cs.toArray)) rfl (by kernel_rfl) (by kernel_rfl) (by kernel_rfl) (fun _ _ _ h => h) (Or.inl ⟨by rfl, ?_⟩) (by assumption) ?_
    · intro w' hS
      exact ex_ldU (.tmp 3) rfl (w.heap.size + 1) 0 v rfl hS.2.2.2.1
    try simp [Act.put]
    refine wpAnyH_take (i := 5) (v := (.bool true)) rfl (by kernel_rfl) (by kernel_rfl) (by kernel_rfl) (fun _ _ _ h => h) (Or.inl ⟨by rfl, ?_⟩) (by assumption) ?_
    · intro w' hS
      refine (ex_eqU (.tmp 49) (.tmp 50) rfl u v rfl rfl).trans ?_
      rw [hs]
    try simp [Act.put]
    refine wpAnyH_take (i := 6) (v := (.bool true)) rfl (by kernel_rfl) (by kernel_rfl) (by kernel_rfl) (fun _ _ _ h => h) (Or.inl ⟨by rfl, ?_⟩) (by assumption) ?_
    · intro w' hS; go_simp; try with_reducible rfl
    try simp [Act.put]
    refine wpAnyH_take (i := 7) (v := (.bool true)) rfl (by kernel_rfl) (by kernel_rfl) (by kernel_rfl) (fun _ _ _ h => h) (Or.inl ⟨by rfl, ?_⟩) (by assumption) ?_
    · intro w' hS; go_simp; try with_reducible rfl
    try simp [Act.put]
    refine wpAnyH_take (i := 8) (v := (.bool true)) rfl (by kernel_rfl) (by kernel_rfl) (by kernel_rfl) (fun _ _ _ h => h) (Or.inl ⟨by rfl, ?_⟩) (by assumption) ?_
    · intro w' hS; go_simp; try with_reducible rfl
    try simp [Act.put]
    refine wpAnyH_take (i := 9) (v := (.bool true)) rfl (by kernel_rfl) (by kernel_rfl) (by kernel_rfl) (fun _ _ _ h => h) (Or.inl ⟨by rfl, ?_⟩) (by assumption) ?_
    · intro w' hS; go_simp; try with_reducible rfl
    try simp [Act.put]
    refine wpAnyH_take (i := 10) (v := (.bool true)) rfl (by kernel_rfl) (by kernel_rfl) (by kernel_rfl) (fun _ _ _ h => h) (Or.inl ⟨by rfl, ?_⟩) (by assumption) ?_
    · intro w' hS; go_simp; try with_reducible rfl
    try simp [Act.put]
    refine wpAnyH_take (i := 11) (v := (.agg u.cs.toArray)) rfl (by kernel_rfl) (by kernel_rfl) (by kernel_rfl) (fun _ _ _ h => h) (Or.inl ⟨by rfl, ?_⟩) (by assumption) ?_
    · intro w' hS
      exact ex_ldU (.tmp 9) rfl w6.heap.size 0 u rfl hS.2.2.2.2
    try simp [Act.put]
    refine wpAnyH_take (i := 12) (v := (.agg u.cs.toArray)) rfl (by kernel_rfl) (by kernel_rfl) (by kernel_rfl) (fun _ _ _ h => h) (Or.inl ⟨by rfl, ?_⟩) (by assumption) ?_
    · intro w' hS
      exact ex_ldU (.tmp 2) rfl w.heap.size 0 u rfl hS.2.2.1
    try simp [Act.put]
    refine wpAnyH_take (i := 13) (v := (.bool true)) rfl (by kernel_rfl) (by kernel_rfl) (by kernel_rfl) (fun _ _ _ h => h) (Or.inl ⟨by rfl, ?_⟩) (by assumption) ?_
    · intro w' hS
      refine (ex_eqU (.tmp 57) (.tmp 58) rfl u u rfl rfl).trans ?_
      rw [HUU.out]
    try simp [Act.put]
    refine wpAnyH_take (i := 14) (v := (.bool true)) rfl (by kernel_rfl) (by kernel_rfl) (by kernel_rfl) (fun _ _ _ h => h) (Or.inl ⟨by rfl, ?_⟩) (by assumption) ?_
    · intro w' hS; go_simp; try with_reducible rfl
    try simp [Act.put]
    refine wpAnyH_take (i := 15) (v := (.bool true)) rfl (by kernel_rfl) (by kernel_rfl) (by kernel_rfl) (fun _ _ _ h => h) (Or.inl ⟨by rfl, ?_⟩) (by assumption) ?_
    · intro w' hS; go_simp; try with_reducible rfl
    try simp [Act.put]
    refine wpAnyH_done (by kernel_rfl) ?_ _
    clear hs hHeld
    go_wp2_with fail
    go_ret
    exact ⟨rfl, HB8.out⟩
theorem apart_any : Calls Try.prog 8 #[.agg u.cs.toArray, .agg v.cs.toArray] w fun e w' => e = .returned (.bool true) ∧ Below w.heap.size w w' := by
  rcases hu : rightU u with _ | _ <;> rcases hv : rightU v with _ | _
  · exact apart_ff u v w hu hv
  · exact apart_ft u v w hu hv
  · exact apart_tf u v w hu hv
  · exact apart_tt u v w hu hv
end
end Go.Proofs.Ytegcknloemgndaa
