/- Walks: which of two stands ahead. -/
import Derived.Test.YtolinaijldmpnaaQ1
import Derived.StillTailTactics
namespace Go.Proofs.Ytolinaijldmpnaa
open Go.RowKit

def cmpF (x y : Int) : Int := if x < y then -1 else if y < x then 1 else 0
def orF : List Int → Int
  | [] => 0
  | x :: r => if x = 0 then orF r else x

theorem nan_u64 (x : Int) (w : World) : Calls Try.prog 30 #[.int .u64 x] w fun e w' => e = .returned (.bool false) ∧ w' = w := by
  go_enter Try.func30, Try.ntmps30
  go_wp2_with fail
  go_ret
  exact ⟨ret_bool (by first | rfl | simp), rfl⟩
theorem cmp_u64 (x y : Int) (w : World) : Calls Try.prog 22 #[.int .u64 x, .int .u64 y] w fun e w' => e = .returned (.int .i64 (cmpF x y)) ∧ w' = w := by
  have hx := Lib.hid (nan_u64 x)
  have hy := Lib.hid (nan_u64 y)
  rcases Int.lt_trichotomy x y with h | h | h
  · have hr : cmpF x y = -1 := by unfold cmpF; rw [if_pos h]
    rw [hr]
    clear hr
    go_enter Try.func22, Try.ntmps22
    go_wp2_with (go_at_call 30; first | (refine (hx.out _).mono ?_; rintro e w1 ⟨rfl, rfl⟩) | (refine (hy.out _).mono ?_; rintro e w1 ⟨rfl, rfl⟩))
    go_ret
    exact ⟨rfl, rfl⟩
  · subst h
    have hr : cmpF x x = 0 := by unfold cmpF; rw [if_neg (by omega), if_neg (by omega)]
    rw [hr]
    clear hr
    go_enter Try.func22, Try.ntmps22
    go_wp2_with (go_at_call 30; (refine (hx.out _).mono ?_; rintro e w1 ⟨rfl, rfl⟩))
    go_ret
    exact ⟨rfl, rfl⟩
  · have hr : cmpF x y = 1 := by unfold cmpF; rw [if_neg (by omega), if_pos h]
    rw [hr]
    clear hr
    go_enter Try.func22, Try.ntmps22
    go_wp2_with (go_at_call 30; first | (refine (hx.out _).mono ?_; rintro e w1 ⟨rfl, rfl⟩) | (refine (hy.out _).mono ?_; rintro e w1 ⟨rfl, rfl⟩))
    go_ret
    exact ⟨rfl, rfl⟩

theorem nan_i64 (x : Int) (w : World) : Calls Try.prog 31 #[.int .i64 x] w fun e w' => e = .returned (.bool false) ∧ w' = w := by
  go_enter Try.func31, Try.ntmps31
  go_wp2_with fail
  go_ret
  exact ⟨ret_bool (by first | rfl | simp), rfl⟩
theorem cmp_i64 (x y : Int) (w : World) : Calls Try.prog 23 #[.int .i64 x, .int .i64 y] w fun e w' => e = .returned (.int .i64 (cmpF x y)) ∧ w' = w := by
  have hx := Lib.hid (nan_i64 x)
  have hy := Lib.hid (nan_i64 y)
  rcases Int.lt_trichotomy x y with h | h | h
  · have hr : cmpF x y = -1 := by unfold cmpF; rw [if_pos h]
    rw [hr]
    clear hr
    go_enter Try.func23, Try.ntmps23
    go_wp2_with (go_at_call 31; first | (refine (hx.out _).mono ?_; rintro e w1 ⟨rfl, rfl⟩) | (refine (hy.out _).mono ?_; rintro e w1 ⟨rfl, rfl⟩))
    go_ret
    exact ⟨rfl, rfl⟩
  · subst h
    have hr : cmpF x x = 0 := by unfold cmpF; rw [if_neg (by omega), if_neg (by omega)]
    rw [hr]
    clear hr
    go_enter Try.func23, Try.ntmps23
    go_wp2_with (go_at_call 31; (refine (hx.out _).mono ?_; rintro e w1 ⟨rfl, rfl⟩))
    go_ret
    exact ⟨rfl, rfl⟩
  · have hr : cmpF x y = 1 := by unfold cmpF; rw [if_neg (by omega), if_pos h]
    rw [hr]
    clear hr
    go_enter Try.func23, Try.ntmps23
    go_wp2_with (go_at_call 31; first | (refine (hx.out _).mono ?_; rintro e w1 ⟨rfl, rfl⟩) | (refine (hy.out _).mono ?_; rintro e w1 ⟨rfl, rfl⟩))
    go_ret
    exact ⟨rfl, rfl⟩

theorem nan_u32 (x : Int) (w : World) : Calls Try.prog 32 #[.int .u32 x] w fun e w' => e = .returned (.bool false) ∧ w' = w := by
  go_enter Try.func32, Try.ntmps32
  go_wp2_with fail
  go_ret
  exact ⟨ret_bool (by first | rfl | simp), rfl⟩
theorem cmp_u32 (x y : Int) (w : World) : Calls Try.prog 24 #[.int .u32 x, .int .u32 y] w fun e w' => e = .returned (.int .i64 (cmpF x y)) ∧ w' = w := by
  have hx := Lib.hid (nan_u32 x)
  have hy := Lib.hid (nan_u32 y)
  rcases Int.lt_trichotomy x y with h | h | h
  · have hr : cmpF x y = -1 := by unfold cmpF; rw [if_pos h]
    rw [hr]
    clear hr
    go_enter Try.func24, Try.ntmps24
    go_wp2_with (go_at_call 32; first | (refine (hx.out _).mono ?_; rintro e w1 ⟨rfl, rfl⟩) | (refine (hy.out _).mono ?_; rintro e w1 ⟨rfl, rfl⟩))
    go_ret
    exact ⟨rfl, rfl⟩
  · subst h
    have hr : cmpF x x = 0 := by unfold cmpF; rw [if_neg (by omega), if_neg (by omega)]
    rw [hr]
    clear hr
    go_enter Try.func24, Try.ntmps24
    go_wp2_with (go_at_call 32; (refine (hx.out _).mono ?_; rintro e w1 ⟨rfl, rfl⟩))
    go_ret
    exact ⟨rfl, rfl⟩
  · have hr : cmpF x y = 1 := by unfold cmpF; rw [if_neg (by omega), if_pos h]
    rw [hr]
    clear hr
    go_enter Try.func24, Try.ntmps24
    go_wp2_with (go_at_call 32; first | (refine (hx.out _).mono ?_; rintro e w1 ⟨rfl, rfl⟩) | (refine (hy.out _).mono ?_; rintro e w1 ⟨rfl, rfl⟩))
    go_ret
    exact ⟨rfl, rfl⟩

theorem or_any (A : Option Addr) (c B : Nat) (l : List Int) (w : World) (hs : Rd w B A (wds l)) (hl : l.length ≤ 100) :
    Calls Try.prog 21 #[.slice A l.length c] w fun e w' => e = .returned (.int .i64 (orF l)) ∧ w' = w := by
  have hL := Lib.hid hl
  have hl' : (l.length : Int) ≤ 4611686018427387903 := by omega
  clear hl
  go_enter Try.func21, Try.ntmps21
  go_wp2_with fail
  go_loop [8] (fun i => ∃ (k : Nat), (k : Int) ≤ l.length ∧ i = .int .i64 k ∧ Hid (orF l = orF (l.drop k))) (fun i => l.length - (intOf i).toNat)
  case atStart => exact ⟨0, by omega, rfl, rfl⟩
  case round =>
    obtain ⟨k, hk, rfl, HO⟩ := hrel
    by_cases hlt : k < l.length
    · obtain ⟨b, off, rfl, hbB, hc1⟩ := wd_at hs k hlt
      have hd : Hid (orF (l.drop k) = if l[k] = 0 then orF (l.drop (k + 1)) else l[k]) := by
        show orF (l.drop k) = _
        rw [List.drop_eq_getElem_cons hlt]
        rfl
      have hlt' : (k : Int) < l.length := by omega
      generalize l[k] = x at *
      clear hlt
      by_cases hx : x = 0
      · subst hx
        go_wp2_with fail
        go_round
        case rel => exact ⟨k + 1, by omega, by go_num, by show _ = _; rw [HO.out, hd.out, if_pos rfl]⟩
        case measure => simp [intOf]; omega
      · go_wp2_with fail
        go_ret
        exact ⟨ret_int (by rw [HO.out, hd.out, if_neg hx]), rfl⟩
    · have hz : Hid (orF l = 0) := by
        show _ = _
        rw [HO.out, List.drop_of_length_le (by omega)]
        rfl
      go_wp2_with fail
      go_ret
      exact ⟨ret_int (by rw [hz.out]), rfl⟩
theorem less_or (a b s a' b' s' : Int) : decide (orF [cmpF b b', cmpF a a', cmpF s s'] < 0) = lessF a b s a' b' s' := by
  have h1 : ∀ x y : Int, cmpF x y = 0 ↔ x = y := fun x y => by unfold cmpF; split <;> (try split) <;> omega
  have h2 : ∀ x y : Int, cmpF x y < 0 ↔ x < y := fun x y => by unfold cmpF; split <;> (try split) <;> omega
  have h3 : ∀ x : Int, cmpF x x = 0 := fun x => (h1 x x).2 rfl
  by_cases e1 : b = b'
  · subst e1
    by_cases e2 : a = a'
    · subst e2
      by_cases e3 : s = s'
      · subst e3
        simp [orF, lessF, h3]
      · simp [orF, lessF, h3, h1, e3, h2]
    · simp [orF, lessF, h3, h1, e2, h2]
  · simp [orF, lessF, h1, e1, h2]
/-- Two pointers in blocks of their own. -/
theorem ptr_here2 {w w1 : World} {a b s a' b' s' : Int} (h : Below ((w.alloc (pto a b s)).alloc (pto a' b' s')).heap.size ((w.alloc (pto a b s)).alloc (pto a' b' s')) w1) :
    (w1.cell? ⟨w.heap.size, 0, none⟩ = some (.int .i64 a) ∧ w1.cell? ⟨w.heap.size, 1, none⟩ = some (.int .u64 b) ∧ w1.cell? ⟨w.heap.size, 2, none⟩ = some (.int .u32 s)) ∧
    w1.cell? ⟨w.heap.size + 1, 0, none⟩ = some (.int .i64 a') ∧ w1.cell? ⟨w.heap.size + 1, 1, none⟩ = some (.int .u64 b') ∧ w1.cell? ⟨w.heap.size + 1, 2, none⟩ = some (.int .u32 s') := by
  refine ⟨ptr_here ((((Below.refl _ _).alloc (Nat.le_refl _) _)).trans (h.mono (by simp))), ?_⟩
  have := ptr_here (w := w.alloc (pto a b s)) h
  simpa using this
theorem less_any (a b s a' b' s' : Int) (w : World) :
    Calls Try.prog 12 #[ptv a b s, ptv a' b' s'] w fun e w' => e = .returned (.bool (lessF a b s a' b' s')) ∧ Below w.heap.size w w' := by
  have hr := Lib.hid (less_or a b s a' b' s')
  obtain ⟨⟨g0, g1, g2⟩, g3, g4, g5⟩ := ptr_here2 (w := w) (a := a) (b := b) (s := s) (a' := a') (b' := b') (s' := s') (w1 := ((w.alloc (pto a b s)).alloc (pto a' b' s')).drew) (Below.drew (Below.refl _ _))
  have h1 := Lib.hid (cmp_u64 b b')
  have h2 := Lib.hid (cmp_i64 a a')
  have h3 := Lib.hid (cmp_u32 s s')
  go_enter Try.func12, Try.ntmps12
  go_wp2_with fail
  refine wp_region_still_tail 15 (by kernel_rfl) (by kernel_rfl) ?_
  simp only [List.take_succ_cons, List.take_zero, List.drop_succ_cons, List.drop_zero]
  have hb : Below w.heap.size w ((w.alloc (pto a b s)).alloc (pto a' b' s')).drew := Below.drew (((Below.refl w.heap.size w).alloc (by omega) (pto a b s)).alloc (by simp) (pto a' b' s'))
  show wpStill _ _ ((w.alloc (pto a b s)).alloc (pto a' b' s')).drew (fun a' => wpList _ _ _ _ a' ((w.alloc (pto _ _ _)).alloc (pto _ _ _)).drew) _ _
  generalize ((w.alloc (pto a b s)).alloc (pto a' b' s')).drew = w2 at *
  iterate 4 still_step
  still_call (h1.out _)
  iterate 4 still_step
  still_call (h2.out _)
  iterate 4 still_step
  still_call (h3.out _)
  refine wpStill_nil ?_
  have ho := fun A c W (h : Rd W W.heap.size A (wds [cmpF b b', cmpF a a', cmpF s s'])) => or_any A c _ [cmpF b b', cmpF a a', cmpF s s'] W h (by simp)
  have HO := Lib.hid ho
  clear ho
  go_wp2_with (go_at_call 21; go_loud (refine (HO.out _ _ _ (rd_new _ _ _)).mono ?_); rintro e w1 ⟨rfl, rfl⟩)
  go_ret
  exact ⟨ret_bool hr.out, hb.alloc hb.size _⟩
theorem rless_any (a b s a' b' s' : Int) (w : World) :
    Calls Try.prog 13 #[ptv a b s, ptv a' b' s'] w fun e w' => e = .returned (.bool (lessF a b s a' b' s')) ∧ Below w.heap.size w w' := by
  have hb := ((Below.refl w.heap.size w).alloc (by omega) (pto a b s)).alloc (by simp) (pto a' b' s')
  rcases Classical.em (b = b') with rfl | hne
  · rcases Classical.em (a = a') with rfl | hne
    · have hr : lessF a b s a b s' = decide (s < s') := by simp [lessF]
      rw [hr]
      clear hr
      go_enter Try.func13, Try.ntmps13
      go_wp2_with fail
      go_ret
      exact ⟨rfl, hb⟩
    · have hr : lessF a b s a' b s' = decide (a < a') := by simp [lessF, hne]
      rw [hr]
      clear hr
      go_enter Try.func13, Try.ntmps13
      go_wp2_with fail
      go_ret
      exact ⟨rfl, hb⟩
  · have hr : lessF a b s a' b' s' = decide (b < b') := by simp [lessF, hne]
    rw [hr]
    clear hr
    go_enter Try.func13, Try.ntmps13
    go_wp2_with fail
    go_ret
    exact ⟨rfl, hb⟩
end Go.Proofs.Ytolinaijldmpnaa
