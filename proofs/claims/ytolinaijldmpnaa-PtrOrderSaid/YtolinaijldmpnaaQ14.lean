/- Walks: the order of pointers. -/
import Derived.Test.YtolinaijldmpnaaQ13
namespace Go.Proofs.Ytolinaijldmpnaa
open Go.RowKit

theorem less_iff {a b s a' b' s' : Int} : lessF a b s a' b' s' = true ↔ b < b' ∨ b = b' ∧ (a < a' ∨ a = a' ∧ s < s') := by
  unfold lessF
  by_cases h1 : b = b'
  · by_cases h2 : a = a'
    · simp [h1, h2]
    · simp [h1, h2]
  · simp [h1]
theorem less_not {a b s a' b' s' : Int} : lessF a b s a' b' s' = false ↔ ¬ (b < b' ∨ b = b' ∧ (a < a' ∨ a = a' ∧ s < s')) := by
  rw [← less_iff]
  simp
theorem less_back {a b s a' b' s' : Int} (h : lessF a b s a' b' s' = true) : lessF a' b' s' a b s = false ∧ (a == a' && b == b' && s == s') = false := by
  rw [less_iff] at h
  rw [less_not]
  refine ⟨by omega, ?_⟩
  simp only [Bool.and_eq_false_iff, beq_eq_false_iff_ne]
  omega
theorem less_none {a b s a' b' s' : Int} (h : lessF a b s a' b' s' = false) (h' : lessF a' b' s' a b s = false) : (a == a' && b == b' && s == s') = true := by
  rw [less_not] at h h'
  simp only [Bool.and_eq_true, beq_iff_eq]
  omega
theorem less_trans {a b s a' b' s' i j k : Int} (h : lessF a b s a' b' s' = true) (h' : lessF a' b' s' i j k = true) : lessF a b s i j k = true := by
  rw [less_iff] at *
  omega
theorem since_less {a b s i j k : Int} (h : sinceF a b s j = true) : lessF i j k a b s = true := by
  simp only [sinceF, Bool.and_eq_true, decide_eq_true_eq] at h
  rw [less_iff]
  exact .inl h.2
/-- Three pointers lie in blocks of their own. -/
abbrev Three (w' : World) (g : Nat) (a b s a' b' s' i j k : Int) : Prop := Two w' g a b s a' b' s' ∧
  w'.cell? ⟨g + 2, 0, none⟩ = some (.int .i64 i) ∧ w'.cell? ⟨g + 2, 1, none⟩ = some (.int .u64 j) ∧ w'.cell? ⟨g + 2, 2, none⟩ = some (.int .u32 k)
theorem three_at {w w1 : World} {a b s a' b' s' i j k : Int} (h : Below (((w.alloc (pto a b s)).alloc (pto a' b' s')).alloc (pto i j k)).heap.size (((w.alloc (pto a b s)).alloc (pto a' b' s')).alloc (pto i j k)) w1) :
    Three w1 w.heap.size a b s a' b' s' i j k := by
  refine ⟨two_at ((((Below.refl _ _).alloc (Nat.le_refl _) _)).trans (h.mono (by simp))), ?_⟩
  have := ptr_here h
  simpa using this
theorem less_is {a b s a' b' s' : Int} {x : Bool} (h : lessF a b s a' b' s' = x) (w : World) : Calls Try.prog 12 #[ptv a b s, ptv a' b' s'] w fun e w' => e = .returned (.bool x) ∧ Below w.heap.size w w' := by
  subst h
  exact less_any a b s a' b' s' w
theorem since_is {a b s t : Int} {x : Bool} (h : sinceF a b s t = x) (w : World) : Calls Try.prog 14 #[ptv a b s, .int .u64 t] w fun e w' => e = .returned (.bool x) ∧ Below w.heap.size w w' := by
  subst h
  exact since_any a b s t w
section
variable (w : World) {a b s a' b' s' i j k : Int}

theorem ptrOrder_A1T (hx : lessF a b s a' b' s' = true) (hy : lessF a' b' s' a b s = false) (he : (a == a' && b == b' && s == s') = false) (hz : lessF a' b' s' i j k = true) (hu : lessF a b s i j k = true) (hs : sinceF a b s j = true) (hv : lessF i j k a b s = true) :
    Calls Try.prog 7 #[ptv a b s, ptv a' b' s', ptv i j k] w fun e w' => e = .returned (.bool true) ∧ Below w.heap.size w w' := by
  have HA := Lib.hid alive_any
  have HPQ := Lib.hid (less_is hx)
  have HQP := Lib.hid (less_is hy)
  have HQR := Lib.hid (less_is hz)
  have HPR := Lib.hid (less_is hu)
  have HS := Lib.hid (since_is hs)
  have HRP := Lib.hid (less_is hv)
  have hq := run_eqP a b s a' b' s'
  rw [he] at hq
  clear hx hy he hz hu hs hv
  go_enter Try.func7, Try.ntmps7
  go_wp2_with fail
  have HK := Lib.hid (fun w1 => three_at (w := w) (w1 := w1) (a := a) (b := b) (s := s) (a' := a') (b' := b') (s' := s') (i := i) (j := j) (k := k))
  have hb0 : Below w.heap.size w (((w.alloc (pto a b s)).alloc (pto a' b' s')).alloc (pto i j k)) := (below_two' w _ _).alloc (by simp; omega) _
  generalize ((w.alloc (pto a b s)).alloc (pto a' b' s')).alloc (pto i j k) = w0 at *
  have HB0 := Lib.hid hb0
  clear hb0
  refine (HA.out _).mono ?_
  rintro e w1 ⟨rfl, hb1⟩
  have HK1 : Hid (∀ w', Below w1.heap.size w1 w' → Three w' w.heap.size a b s a' b' s' i j k) := fun w' hw => HK.out w' (hb1.trans (hw.mono hb1.size))
  have HB1 := Lib.hid (HB0.out.trans (hb1.mono HB0.out.size))
  clear HK HB0 hb1
  have HK := Lib.hid HK1.out
  clear HK1
  have HK2 : Hid (∀ w', Below w1.heap.size w1 w' → Below w1.heap.size w1 w' ∧ w'.cell? ⟨w.heap.size, 0, none⟩ = some (.int .i64 a) ∧ w'.cell? ⟨w.heap.size, 1, none⟩ = some (.int .u64 b) ∧ w'.cell? ⟨w.heap.size, 2, none⟩ = some (.int .u32 s) ∧ w'.cell? ⟨w.heap.size + 1, 0, none⟩ = some (.int .i64 a') ∧ w'.cell? ⟨w.heap.size + 1, 1, none⟩ = some (.int .u64 b') ∧ w'.cell? ⟨w.heap.size + 1, 2, none⟩ = some (.int .u32 s')) := fun w' hw => ⟨hw, (HK.out w' hw).1⟩
  go_wp2_with fail
  have hS1 : Hid ((fun w' => Below w1.heap.size w1 w' ∧ w'.cell? ⟨w.heap.size, 0, none⟩ = some (.int .i64 a) ∧ w'.cell? ⟨w.heap.size, 1, none⟩ = some (.int .u64 b) ∧ w'.cell? ⟨w.heap.size, 2, none⟩ = some (.int .u32 s) ∧ w'.cell? ⟨w.heap.size + 1, 0, none⟩ = some (.int .i64 a') ∧ w'.cell? ⟨w.heap.size + 1, 1, none⟩ = some (.int .u64 b') ∧ w'.cell? ⟨w.heap.size + 1, 2, none⟩ = some (.int .u32 s')) w1.drew) := HK2.out _ (Below.refl _ _).drew
  refine wp_region_held_drew (S := (fun w' => Below w1.heap.size w1 w' ∧ w'.cell? ⟨w.heap.size, 0, none⟩ = some (.int .i64 a) ∧ w'.cell? ⟨w.heap.size, 1, none⟩ = some (.int .u64 b) ∧ w'.cell? ⟨w.heap.size, 2, none⟩ = some (.int .u32 s) ∧ w'.cell? ⟨w.heap.size + 1, 0, none⟩ = some (.int .i64 a') ∧ w'.cell? ⟨w.heap.size + 1, 1, none⟩ = some (.int .u64 b') ∧ w'.cell? ⟨w.heap.size + 1, 2, none⟩ = some (.int .u32 s'))) (by kernel_rfl) hS1.out (fun hHeld => ?_)
  clear hS1
  refine wpAnyH_take (i := 0) (v := (ptv a b s)) rfl (by kernel_rfl) (by kernel_rfl) (by kernel_rfl) (fun _ _ _ h => h) (Or.inl ⟨by rfl, ?_⟩) (by assumption) ?_
  · intro w hS
    obtain ⟨-, c0, c1, c2, c3, c4, c5⟩ := hS
    go_simp
    try with_reducible rfl
  simp [Act.put]
  refine wpAnyH_take (i := 1) (v := (ptv a' b' s')) rfl (by kernel_rfl) (by kernel_rfl) (by kernel_rfl) (fun _ _ _ h => h) (Or.inl ⟨by rfl, ?_⟩) (by assumption) ?_
  · intro w hS
    obtain ⟨-, c0, c1, c2, c3, c4, c5⟩ := hS
    go_simp
    try with_reducible rfl
  simp [Act.put]
  refine wpAnyH_ready (rs := [2]) (by kernel_rfl) (by simp) ?_
  refine AllReadyH.cons rfl (fun K hK => ?_) AllReadyH.nil
  go_simp
  refine (HPQ.out _).mono ?_
  rintro e wX ⟨rfl, hX⟩
  refine hK.out _ _ (HK2.out _ (Below.trans hHeld.1 (hX.mono hHeld.1.size))) (fun hHeld2 => ?_)
  clear hK K
  try simp
  clear hHeld hX
  have hHeld := hHeld2
  clear hHeld2
  refine wpAnyH_take (i := 3) (v := (.bool true)) rfl (by kernel_rfl) (by kernel_rfl) (by kernel_rfl) (fun _ _ _ h => h) (Or.inl ⟨by rfl, ?_⟩) (by assumption) ?_
  · intro w hS
    obtain ⟨-, c0, c1, c2, c3, c4, c5⟩ := hS
    go_simp
    try with_reducible rfl
  simp [Act.put]
  refine wpAnyH_take (i := 4) (v := (ptv a' b' s')) rfl (by kernel_rfl) (by kernel_rfl) (by kernel_rfl) (fun _ _ _ h => h) (Or.inl ⟨by rfl, ?_⟩) (by assumption) ?_
  · intro w hS
    obtain ⟨-, c0, c1, c2, c3, c4, c5⟩ := hS
    go_simp
    try with_reducible rfl
  simp [Act.put]
  refine wpAnyH_take (i := 5) (v := (ptv a b s)) rfl (by kernel_rfl) (by kernel_rfl) (by kernel_rfl) (fun _ _ _ h => h) (Or.inl ⟨by rfl, ?_⟩) (by assumption) ?_
  · intro w hS
    obtain ⟨-, c0, c1, c2, c3, c4, c5⟩ := hS
    go_simp
    try with_reducible rfl
  simp [Act.put]
  refine wpAnyH_ready (rs := [6]) (by kernel_rfl) (by simp) ?_
  refine AllReadyH.cons rfl (fun K hK => ?_) AllReadyH.nil
  go_simp
  refine (HQP.out _).mono ?_
  rintro e wX ⟨rfl, hX⟩
  refine hK.out _ _ (HK2.out _ (Below.trans hHeld.1 (hX.mono hHeld.1.size))) (fun hHeld2 => ?_)
  clear hK K
  try simp
  clear hHeld hX
  have hHeld := hHeld2
  clear hHeld2
  refine wpAnyH_take (i := 7) (v := (.bool false)) rfl (by kernel_rfl) (by kernel_rfl) (by kernel_rfl) (fun _ _ _ h => h) (Or.inl ⟨by rfl, ?_⟩) (by assumption) ?_
  · intro w hS
    obtain ⟨-, c0, c1, c2, c3, c4, c5⟩ := hS
    go_simp
    try with_reducible rfl
  simp [Act.put]
  refine wpAnyH_take (i := 8) (v := (.bool false)) rfl (by kernel_rfl) (by kernel_rfl) (by kernel_rfl) (fun _ _ _ h => h) (Or.inl ⟨by rfl, ?_⟩) (by assumption) ?_
  · intro w hS
    obtain ⟨-, c0, c1, c2, c3, c4, c5⟩ := hS
    go_simp
    try with_reducible rfl
  simp [Act.put]
  refine wpAnyH_take (i := 9) (v := (ptv a b s)) rfl (by kernel_rfl) (by kernel_rfl) (by kernel_rfl) (fun _ _ _ h => h) (Or.inl ⟨by rfl, ?_⟩) (by assumption) ?_
  · intro w hS
    obtain ⟨-, c0, c1, c2, c3, c4, c5⟩ := hS
    go_simp
    try with_reducible rfl
  simp [Act.put]
  refine wpAnyH_take (i := 10) (v := (ptv a' b' s')) rfl (by kernel_rfl) (by kernel_rfl) (by kernel_rfl) (fun _ _ _ h => h) (Or.inl ⟨by rfl, ?_⟩) (by assumption) ?_
  · intro w hS
    obtain ⟨-, c0, c1, c2, c3, c4, c5⟩ := hS
    go_simp
    try with_reducible rfl
  simp [Act.put]
  refine wpAnyH_take (i := 19) (v := (ptv a b s)) rfl (by kernel_rfl) (by kernel_rfl) (by kernel_rfl) (fun _ _ _ h => h) (Or.inl ⟨by rfl, ?_⟩) (by assumption) ?_
  · intro w hS
    obtain ⟨-, c0, c1, c2, c3, c4, c5⟩ := hS
    go_simp
    try with_reducible rfl
  simp [Act.put]
  refine wpAnyH_take (i := 20) (v := (ptv a' b' s')) rfl (by kernel_rfl) (by kernel_rfl) (by kernel_rfl) (fun _ _ _ h => h) (Or.inl ⟨by rfl, ?_⟩) (by assumption) ?_
  · intro w hS
    obtain ⟨-, c0, c1, c2, c3, c4, c5⟩ := hS
    go_simp
    try with_reducible rfl
  simp [Act.put]
  refine wpAnyH_take (i := 21) (v := (.bool false)) rfl (by kernel_rfl) (by kernel_rfl) (by kernel_rfl) (fun _ _ _ h => h) (Or.inl ⟨by rfl, ?_⟩) (by assumption) ?_
  · intro w hS
    obtain ⟨-, c0, c1, c2, c3, c4, c5⟩ := hS
    go_simp
    try with_reducible rfl
  simp [Act.put]
  refine wpAnyH_ready (rs := [11]) (by kernel_rfl) (by simp) ?_
  refine AllReadyH.cons rfl (fun K hK => ?_) AllReadyH.nil
  go_simp
  refine (HPQ.out _).mono ?_
  rintro e wX ⟨rfl, hX⟩
  refine hK.out _ _ (HK2.out _ (Below.trans hHeld.1 (hX.mono hHeld.1.size))) (fun hHeld2 => ?_)
  clear hK K
  try simp
  clear hHeld hX
  have hHeld := hHeld2
  clear hHeld2
  refine wpAnyH_take (i := 12) (v := (.bool false)) rfl (by kernel_rfl) (by kernel_rfl) (by kernel_rfl) (fun _ _ _ h => h) (Or.inl ⟨by rfl, ?_⟩) (by assumption) ?_
  · intro w hS
    obtain ⟨-, c0, c1, c2, c3, c4, c5⟩ := hS
    go_simp
    try with_reducible rfl
  simp [Act.put]
  refine wpAnyH_take (i := 13) (v := (.bool false)) rfl (by kernel_rfl) (by kernel_rfl) (by kernel_rfl) (fun _ _ _ h => h) (Or.inl ⟨by rfl, ?_⟩) (by assumption) ?_
  · intro w hS
    obtain ⟨-, c0, c1, c2, c3, c4, c5⟩ := hS
    go_simp
    try with_reducible rfl
  simp [Act.put]
  refine wpAnyH_take (i := 14) (v := undef) rfl (by kernel_rfl) (by kernel_rfl) (by kernel_rfl) (fun _ _ _ h => h) (Or.inr ⟨by rfl, rfl⟩) (by assumption) ?_
  simp [Act.put]
  refine wpAnyH_take (i := 15) (v := undef) rfl (by kernel_rfl) (by kernel_rfl) (by kernel_rfl) (fun _ _ _ h => h) (Or.inr ⟨by rfl, rfl⟩) (by assumption) ?_
  simp [Act.put]
  refine wpAnyH_take (i := 16) (v := undef) rfl (by kernel_rfl) (by kernel_rfl) (by kernel_rfl) (fun _ _ _ h => h) (Or.inr ⟨by rfl, rfl⟩) (by assumption) ?_
  simp [Act.put]
  refine wpAnyH_take (i := 17) (v := undef) rfl (by kernel_rfl) (by kernel_rfl) (by kernel_rfl) (fun _ _ _ h => h) (Or.inr ⟨by rfl, rfl⟩) (by assumption) ?_
  simp [Act.put]
  refine wpAnyH_take (i := 18) (v := (.bool false)) rfl (by kernel_rfl) (by kernel_rfl) (by kernel_rfl) (fun _ _ _ h => h) (Or.inl ⟨by rfl, ?_⟩) (by assumption) ?_
  · intro w hS
    obtain ⟨-, c0, c1, c2, c3, c4, c5⟩ := hS
    go_simp
    try with_reducible rfl
  simp [Act.put]
  refine wpAnyH_take (i := 22) (v := (.bool false)) rfl (by kernel_rfl) (by kernel_rfl) (by kernel_rfl) (fun _ _ _ h => h) (Or.inl ⟨by rfl, ?_⟩) (by assumption) ?_
  · intro w hS
    obtain ⟨-, c0, c1, c2, c3, c4, c5⟩ := hS
    go_simp
    try with_reducible rfl
  simp [Act.put]
  refine wpAnyH_take (i := 23) (v := (.bool false)) rfl (by kernel_rfl) (by kernel_rfl) (by kernel_rfl) (fun _ _ _ h => h) (Or.inl ⟨by rfl, ?_⟩) (by assumption) ?_
  · intro w hS
    obtain ⟨-, c0, c1, c2, c3, c4, c5⟩ := hS
    go_simp
    try with_reducible rfl
  simp [Act.put]
  refine wpAnyH_done (by kernel_rfl) ?_ _
  all_goals
    obtain ⟨hE, -⟩ := hHeld
    obtain ⟨⟨c0, c1, c2, c3, c4, c5⟩, c6, c7, c8⟩ := HK.out _ hE
    go_wp2_with (first
    | (go_at_call 12; with_reducible refine Calls.mono (HPQ.out _) ?_; rintro e wX ⟨rfl, hX⟩; have hE := Below.trans hE (Below.mono hX hE.size); obtain ⟨⟨c0, c1, c2, c3, c4, c5⟩, c6, c7, c8⟩ := HK.out _ hE; clear hX)
    | (go_at_call 12; with_reducible refine Calls.mono (HQP.out _) ?_; rintro e wX ⟨rfl, hX⟩; have hE := Below.trans hE (Below.mono hX hE.size); obtain ⟨⟨c0, c1, c2, c3, c4, c5⟩, c6, c7, c8⟩ := HK.out _ hE; clear hX)
    | (go_at_call 12; with_reducible refine Calls.mono (HQR.out _) ?_; rintro e wX ⟨rfl, hX⟩; have hE := Below.trans hE (Below.mono hX hE.size); obtain ⟨⟨c0, c1, c2, c3, c4, c5⟩, c6, c7, c8⟩ := HK.out _ hE; clear hX)
    | (go_at_call 12; with_reducible refine Calls.mono (HPR.out _) ?_; rintro e wX ⟨rfl, hX⟩; have hE := Below.trans hE (Below.mono hX hE.size); obtain ⟨⟨c0, c1, c2, c3, c4, c5⟩, c6, c7, c8⟩ := HK.out _ hE; clear hX)
    | (go_at_call 12; with_reducible refine Calls.mono (HRP.out _) ?_; rintro e wX ⟨rfl, hX⟩; have hE := Below.trans hE (Below.mono hX hE.size); obtain ⟨⟨c0, c1, c2, c3, c4, c5⟩, c6, c7, c8⟩ := HK.out _ hE; clear hX)
    | (go_at_call 14; with_reducible refine Calls.mono (HS.out _) ?_; rintro e wX ⟨rfl, hX⟩; have hE := Below.trans hE (Below.mono hX hE.size); obtain ⟨⟨c0, c1, c2, c3, c4, c5⟩, c6, c7, c8⟩ := HK.out _ hE; clear hX))
    go_ret
    exact ⟨rfl, HB1.out.trans (hE.mono HB1.out.size)⟩

theorem ptrOrder_A1F (hx : lessF a b s a' b' s' = true) (hy : lessF a' b' s' a b s = false) (he : (a == a' && b == b' && s == s') = false) (hz : lessF a' b' s' i j k = true) (hu : lessF a b s i j k = true) (hs : sinceF a b s j = false) :
    Calls Try.prog 7 #[ptv a b s, ptv a' b' s', ptv i j k] w fun e w' => e = .returned (.bool true) ∧ Below w.heap.size w w' := by
  have HA := Lib.hid alive_any
  have HPQ := Lib.hid (less_is hx)
  have HQP := Lib.hid (less_is hy)
  have HQR := Lib.hid (less_is hz)
  have HPR := Lib.hid (less_is hu)
  have HS := Lib.hid (since_is hs)
  have hq := run_eqP a b s a' b' s'
  rw [he] at hq
  clear hx hy he hz hu hs
  go_enter Try.func7, Try.ntmps7
  go_wp2_with fail
  have HK := Lib.hid (fun w1 => three_at (w := w) (w1 := w1) (a := a) (b := b) (s := s) (a' := a') (b' := b') (s' := s') (i := i) (j := j) (k := k))
  have hb0 : Below w.heap.size w (((w.alloc (pto a b s)).alloc (pto a' b' s')).alloc (pto i j k)) := (below_two' w _ _).alloc (by simp; omega) _
  generalize ((w.alloc (pto a b s)).alloc (pto a' b' s')).alloc (pto i j k) = w0 at *
  have HB0 := Lib.hid hb0
  clear hb0
  refine (HA.out _).mono ?_
  rintro e w1 ⟨rfl, hb1⟩
  have HK1 : Hid (∀ w', Below w1.heap.size w1 w' → Three w' w.heap.size a b s a' b' s' i j k) := fun w' hw => HK.out w' (hb1.trans (hw.mono hb1.size))
  have HB1 := Lib.hid (HB0.out.trans (hb1.mono HB0.out.size))
  clear HK HB0 hb1
  have HK := Lib.hid HK1.out
  clear HK1
  have HK2 : Hid (∀ w', Below w1.heap.size w1 w' → Below w1.heap.size w1 w' ∧ w'.cell? ⟨w.heap.size, 0, none⟩ = some (.int .i64 a) ∧ w'.cell? ⟨w.heap.size, 1, none⟩ = some (.int .u64 b) ∧ w'.cell? ⟨w.heap.size, 2, none⟩ = some (.int .u32 s) ∧ w'.cell? ⟨w.heap.size + 1, 0, none⟩ = some (.int .i64 a') ∧ w'.cell? ⟨w.heap.size + 1, 1, none⟩ = some (.int .u64 b') ∧ w'.cell? ⟨w.heap.size + 1, 2, none⟩ = some (.int .u32 s')) := fun w' hw => ⟨hw, (HK.out w' hw).1⟩
  go_wp2_with fail
  have hS1 : Hid ((fun w' => Below w1.heap.size w1 w' ∧ w'.cell? ⟨w.heap.size, 0, none⟩ = some (.int .i64 a) ∧ w'.cell? ⟨w.heap.size, 1, none⟩ = some (.int .u64 b) ∧ w'.cell? ⟨w.heap.size, 2, none⟩ = some (.int .u32 s) ∧ w'.cell? ⟨w.heap.size + 1, 0, none⟩ = some (.int .i64 a') ∧ w'.cell? ⟨w.heap.size + 1, 1, none⟩ = some (.int .u64 b') ∧ w'.cell? ⟨w.heap.size + 1, 2, none⟩ = some (.int .u32 s')) w1.drew) := HK2.out _ (Below.refl _ _).drew
  refine wp_region_held_drew (S := (fun w' => Below w1.heap.size w1 w' ∧ w'.cell? ⟨w.heap.size, 0, none⟩ = some (.int .i64 a) ∧ w'.cell? ⟨w.heap.size, 1, none⟩ = some (.int .u64 b) ∧ w'.cell? ⟨w.heap.size, 2, none⟩ = some (.int .u32 s) ∧ w'.cell? ⟨w.heap.size + 1, 0, none⟩ = some (.int .i64 a') ∧ w'.cell? ⟨w.heap.size + 1, 1, none⟩ = some (.int .u64 b') ∧ w'.cell? ⟨w.heap.size + 1, 2, none⟩ = some (.int .u32 s'))) (by kernel_rfl) hS1.out (fun hHeld => ?_)
  clear hS1
  refine wpAnyH_take (i := 0) (v := (ptv a b s)) rfl (by kernel_rfl) (by kernel_rfl) (by kernel_rfl) (fun _ _ _ h => h) (Or.inl ⟨by rfl, ?_⟩) (by assumption) ?_
  · intro w hS
    obtain ⟨-, c0, c1, c2, c3, c4, c5⟩ := hS
    go_simp
    try with_reducible rfl
  simp [Act.put]
  refine wpAnyH_take (i := 1) (v := (ptv a' b' s')) rfl (by kernel_rfl) (by kernel_rfl) (by kernel_rfl) (fun _ _ _ h => h) (Or.inl ⟨by rfl, ?_⟩) (by assumption) ?_
  · intro w hS
    obtain ⟨-, c0, c1, c2, c3, c4, c5⟩ := hS
    go_simp
    try with_reducible rfl
  simp [Act.put]
  refine wpAnyH_ready (rs := [2]) (by kernel_rfl) (by simp) ?_
  refine AllReadyH.cons rfl (fun K hK => ?_) AllReadyH.nil
  go_simp
  refine (HPQ.out _).mono ?_
  rintro e wX ⟨rfl, hX⟩
  refine hK.out _ _ (HK2.out _ (Below.trans hHeld.1 (hX.mono hHeld.1.size))) (fun hHeld2 => ?_)
  clear hK K
  try simp
  clear hHeld hX
  have hHeld := hHeld2
  clear hHeld2
  refine wpAnyH_take (i := 3) (v := (.bool true)) rfl (by kernel_rfl) (by kernel_rfl) (by kernel_rfl) (fun _ _ _ h => h) (Or.inl ⟨by rfl, ?_⟩) (by assumption) ?_
  · intro w hS
    obtain ⟨-, c0, c1, c2, c3, c4, c5⟩ := hS
    go_simp
    try with_reducible rfl
  simp [Act.put]
  refine wpAnyH_take (i := 4) (v := (ptv a' b' s')) rfl (by kernel_rfl) (by kernel_rfl) (by kernel_rfl) (fun _ _ _ h => h) (Or.inl ⟨by rfl, ?_⟩) (by assumption) ?_
  · intro w hS
    obtain ⟨-, c0, c1, c2, c3, c4, c5⟩ := hS
    go_simp
    try with_reducible rfl
  simp [Act.put]
  refine wpAnyH_take (i := 5) (v := (ptv a b s)) rfl (by kernel_rfl) (by kernel_rfl) (by kernel_rfl) (fun _ _ _ h => h) (Or.inl ⟨by rfl, ?_⟩) (by assumption) ?_
  · intro w hS
    obtain ⟨-, c0, c1, c2, c3, c4, c5⟩ := hS
    go_simp
    try with_reducible rfl
  simp [Act.put]
  refine wpAnyH_ready (rs := [6]) (by kernel_rfl) (by simp) ?_
  refine AllReadyH.cons rfl (fun K hK => ?_) AllReadyH.nil
  go_simp
  refine (HQP.out _).mono ?_
  rintro e wX ⟨rfl, hX⟩
  refine hK.out _ _ (HK2.out _ (Below.trans hHeld.1 (hX.mono hHeld.1.size))) (fun hHeld2 => ?_)
  clear hK K
  try simp
  clear hHeld hX
  have hHeld := hHeld2
  clear hHeld2
  refine wpAnyH_take (i := 7) (v := (.bool false)) rfl (by kernel_rfl) (by kernel_rfl) (by kernel_rfl) (fun _ _ _ h => h) (Or.inl ⟨by rfl, ?_⟩) (by assumption) ?_
  · intro w hS
    obtain ⟨-, c0, c1, c2, c3, c4, c5⟩ := hS
    go_simp
    try with_reducible rfl
  simp [Act.put]
  refine wpAnyH_take (i := 8) (v := (.bool false)) rfl (by kernel_rfl) (by kernel_rfl) (by kernel_rfl) (fun _ _ _ h => h) (Or.inl ⟨by rfl, ?_⟩) (by assumption) ?_
  · intro w hS
    obtain ⟨-, c0, c1, c2, c3, c4, c5⟩ := hS
    go_simp
    try with_reducible rfl
  simp [Act.put]
  refine wpAnyH_take (i := 9) (v := (ptv a b s)) rfl (by kernel_rfl) (by kernel_rfl) (by kernel_rfl) (fun _ _ _ h => h) (Or.inl ⟨by rfl, ?_⟩) (by assumption) ?_
  · intro w hS
    obtain ⟨-, c0, c1, c2, c3, c4, c5⟩ := hS
    go_simp
    try with_reducible rfl
  simp [Act.put]
  refine wpAnyH_take (i := 10) (v := (ptv a' b' s')) rfl (by kernel_rfl) (by kernel_rfl) (by kernel_rfl) (fun _ _ _ h => h) (Or.inl ⟨by rfl, ?_⟩) (by assumption) ?_
  · intro w hS
    obtain ⟨-, c0, c1, c2, c3, c4, c5⟩ := hS
    go_simp
    try with_reducible rfl
  simp [Act.put]
  refine wpAnyH_take (i := 19) (v := (ptv a b s)) rfl (by kernel_rfl) (by kernel_rfl) (by kernel_rfl) (fun _ _ _ h => h) (Or.inl ⟨by rfl, ?_⟩) (by assumption) ?_
  · intro w hS
    obtain ⟨-, c0, c1, c2, c3, c4, c5⟩ := hS
    go_simp
    try with_reducible rfl
  simp [Act.put]
  refine wpAnyH_take (i := 20) (v := (ptv a' b' s')) rfl (by kernel_rfl) (by kernel_rfl) (by kernel_rfl) (fun _ _ _ h => h) (Or.inl ⟨by rfl, ?_⟩) (by assumption) ?_
  · intro w hS
    obtain ⟨-, c0, c1, c2, c3, c4, c5⟩ := hS
    go_simp
    try with_reducible rfl
  simp [Act.put]
  refine wpAnyH_take (i := 21) (v := (.bool false)) rfl (by kernel_rfl) (by kernel_rfl) (by kernel_rfl) (fun _ _ _ h => h) (Or.inl ⟨by rfl, ?_⟩) (by assumption) ?_
  · intro w hS
    obtain ⟨-, c0, c1, c2, c3, c4, c5⟩ := hS
    go_simp
    try with_reducible rfl
  simp [Act.put]
  refine wpAnyH_ready (rs := [11]) (by kernel_rfl) (by simp) ?_
  refine AllReadyH.cons rfl (fun K hK => ?_) AllReadyH.nil
  go_simp
  refine (HPQ.out _).mono ?_
  rintro e wX ⟨rfl, hX⟩
  refine hK.out _ _ (HK2.out _ (Below.trans hHeld.1 (hX.mono hHeld.1.size))) (fun hHeld2 => ?_)
  clear hK K
  try simp
  clear hHeld hX
  have hHeld := hHeld2
  clear hHeld2
  refine wpAnyH_take (i := 12) (v := (.bool false)) rfl (by kernel_rfl) (by kernel_rfl) (by kernel_rfl) (fun _ _ _ h => h) (Or.inl ⟨by rfl, ?_⟩) (by assumption) ?_
  · intro w hS
    obtain ⟨-, c0, c1, c2, c3, c4, c5⟩ := hS
    go_simp
    try with_reducible rfl
  simp [Act.put]
  refine wpAnyH_take (i := 13) (v := (.bool false)) rfl (by kernel_rfl) (by kernel_rfl) (by kernel_rfl) (fun _ _ _ h => h) (Or.inl ⟨by rfl, ?_⟩) (by assumption) ?_
  · intro w hS
    obtain ⟨-, c0, c1, c2, c3, c4, c5⟩ := hS
    go_simp
    try with_reducible rfl
  simp [Act.put]
  refine wpAnyH_take (i := 14) (v := undef) rfl (by kernel_rfl) (by kernel_rfl) (by kernel_rfl) (fun _ _ _ h => h) (Or.inr ⟨by rfl, rfl⟩) (by assumption) ?_
  simp [Act.put]
  refine wpAnyH_take (i := 15) (v := undef) rfl (by kernel_rfl) (by kernel_rfl) (by kernel_rfl) (fun _ _ _ h => h) (Or.inr ⟨by rfl, rfl⟩) (by assumption) ?_
  simp [Act.put]
  refine wpAnyH_take (i := 16) (v := undef) rfl (by kernel_rfl) (by kernel_rfl) (by kernel_rfl) (fun _ _ _ h => h) (Or.inr ⟨by rfl, rfl⟩) (by assumption) ?_
  simp [Act.put]
  refine wpAnyH_take (i := 17) (v := undef) rfl (by kernel_rfl) (by kernel_rfl) (by kernel_rfl) (fun _ _ _ h => h) (Or.inr ⟨by rfl, rfl⟩) (by assumption) ?_
  simp [Act.put]
  refine wpAnyH_take (i := 18) (v := (.bool false)) rfl (by kernel_rfl) (by kernel_rfl) (by kernel_rfl) (fun _ _ _ h => h) (Or.inl ⟨by rfl, ?_⟩) (by assumption) ?_
  · intro w hS
    obtain ⟨-, c0, c1, c2, c3, c4, c5⟩ := hS
    go_simp
    try with_reducible rfl
  simp [Act.put]
  refine wpAnyH_take (i := 22) (v := (.bool false)) rfl (by kernel_rfl) (by kernel_rfl) (by kernel_rfl) (fun _ _ _ h => h) (Or.inl ⟨by rfl, ?_⟩) (by assumption) ?_
  · intro w hS
    obtain ⟨-, c0, c1, c2, c3, c4, c5⟩ := hS
    go_simp
    try with_reducible rfl
  simp [Act.put]
  refine wpAnyH_take (i := 23) (v := (.bool false)) rfl (by kernel_rfl) (by kernel_rfl) (by kernel_rfl) (fun _ _ _ h => h) (Or.inl ⟨by rfl, ?_⟩) (by assumption) ?_
  · intro w hS
    obtain ⟨-, c0, c1, c2, c3, c4, c5⟩ := hS
    go_simp
    try with_reducible rfl
  simp [Act.put]
  refine wpAnyH_done (by kernel_rfl) ?_ _
  all_goals
    obtain ⟨hE, -⟩ := hHeld
    obtain ⟨⟨c0, c1, c2, c3, c4, c5⟩, c6, c7, c8⟩ := HK.out _ hE
    go_wp2_with (first
    | (go_at_call 12; with_reducible refine Calls.mono (HPQ.out _) ?_; rintro e wX ⟨rfl, hX⟩; have hE := Below.trans hE (Below.mono hX hE.size); obtain ⟨⟨c0, c1, c2, c3, c4, c5⟩, c6, c7, c8⟩ := HK.out _ hE; clear hX)
    | (go_at_call 12; with_reducible refine Calls.mono (HQP.out _) ?_; rintro e wX ⟨rfl, hX⟩; have hE := Below.trans hE (Below.mono hX hE.size); obtain ⟨⟨c0, c1, c2, c3, c4, c5⟩, c6, c7, c8⟩ := HK.out _ hE; clear hX)
    | (go_at_call 12; with_reducible refine Calls.mono (HQR.out _) ?_; rintro e wX ⟨rfl, hX⟩; have hE := Below.trans hE (Below.mono hX hE.size); obtain ⟨⟨c0, c1, c2, c3, c4, c5⟩, c6, c7, c8⟩ := HK.out _ hE; clear hX)
    | (go_at_call 12; with_reducible refine Calls.mono (HPR.out _) ?_; rintro e wX ⟨rfl, hX⟩; have hE := Below.trans hE (Below.mono hX hE.size); obtain ⟨⟨c0, c1, c2, c3, c4, c5⟩, c6, c7, c8⟩ := HK.out _ hE; clear hX)
    | (go_at_call 14; with_reducible refine Calls.mono (HS.out _) ?_; rintro e wX ⟨rfl, hX⟩; have hE := Below.trans hE (Below.mono hX hE.size); obtain ⟨⟨c0, c1, c2, c3, c4, c5⟩, c6, c7, c8⟩ := HK.out _ hE; clear hX))
    go_ret
    exact ⟨rfl, HB1.out.trans (hE.mono HB1.out.size)⟩

theorem ptrOrder_A2T (hx : lessF a b s a' b' s' = true) (hy : lessF a' b' s' a b s = false) (he : (a == a' && b == b' && s == s') = false) (hz : lessF a' b' s' i j k = false) (hs : sinceF a b s j = true) (hv : lessF i j k a b s = true) :
    Calls Try.prog 7 #[ptv a b s, ptv a' b' s', ptv i j k] w fun e w' => e = .returned (.bool true) ∧ Below w.heap.size w w' := by
  have HA := Lib.hid alive_any
  have HPQ := Lib.hid (less_is hx)
  have HQP := Lib.hid (less_is hy)
  have HQR := Lib.hid (less_is hz)
  have HS := Lib.hid (since_is hs)
  have HRP := Lib.hid (less_is hv)
  have hq := run_eqP a b s a' b' s'
  rw [he] at hq
  clear hx hy he hz hs hv
  go_enter Try.func7, Try.ntmps7
  go_wp2_with fail
  have HK := Lib.hid (fun w1 => three_at (w := w) (w1 := w1) (a := a) (b := b) (s := s) (a' := a') (b' := b') (s' := s') (i := i) (j := j) (k := k))
  have hb0 : Below w.heap.size w (((w.alloc (pto a b s)).alloc (pto a' b' s')).alloc (pto i j k)) := (below_two' w _ _).alloc (by simp; omega) _
  generalize ((w.alloc (pto a b s)).alloc (pto a' b' s')).alloc (pto i j k) = w0 at *
  have HB0 := Lib.hid hb0
  clear hb0
  refine (HA.out _).mono ?_
  rintro e w1 ⟨rfl, hb1⟩
  have HK1 : Hid (∀ w', Below w1.heap.size w1 w' → Three w' w.heap.size a b s a' b' s' i j k) := fun w' hw => HK.out w' (hb1.trans (hw.mono hb1.size))
  have HB1 := Lib.hid (HB0.out.trans (hb1.mono HB0.out.size))
  clear HK HB0 hb1
  have HK := Lib.hid HK1.out
  clear HK1
  have HK2 : Hid (∀ w', Below w1.heap.size w1 w' → Below w1.heap.size w1 w' ∧ w'.cell? ⟨w.heap.size, 0, none⟩ = some (.int .i64 a) ∧ w'.cell? ⟨w.heap.size, 1, none⟩ = some (.int .u64 b) ∧ w'.cell? ⟨w.heap.size, 2, none⟩ = some (.int .u32 s) ∧ w'.cell? ⟨w.heap.size + 1, 0, none⟩ = some (.int .i64 a') ∧ w'.cell? ⟨w.heap.size + 1, 1, none⟩ = some (.int .u64 b') ∧ w'.cell? ⟨w.heap.size + 1, 2, none⟩ = some (.int .u32 s')) := fun w' hw => ⟨hw, (HK.out w' hw).1⟩
  go_wp2_with fail
  have hS1 : Hid ((fun w' => Below w1.heap.size w1 w' ∧ w'.cell? ⟨w.heap.size, 0, none⟩ = some (.int .i64 a) ∧ w'.cell? ⟨w.heap.size, 1, none⟩ = some (.int .u64 b) ∧ w'.cell? ⟨w.heap.size, 2, none⟩ = some (.int .u32 s) ∧ w'.cell? ⟨w.heap.size + 1, 0, none⟩ = some (.int .i64 a') ∧ w'.cell? ⟨w.heap.size + 1, 1, none⟩ = some (.int .u64 b') ∧ w'.cell? ⟨w.heap.size + 1, 2, none⟩ = some (.int .u32 s')) w1.drew) := HK2.out _ (Below.refl _ _).drew
  refine wp_region_held_drew (S := (fun w' => Below w1.heap.size w1 w' ∧ w'.cell? ⟨w.heap.size, 0, none⟩ = some (.int .i64 a) ∧ w'.cell? ⟨w.heap.size, 1, none⟩ = some (.int .u64 b) ∧ w'.cell? ⟨w.heap.size, 2, none⟩ = some (.int .u32 s) ∧ w'.cell? ⟨w.heap.size + 1, 0, none⟩ = some (.int .i64 a') ∧ w'.cell? ⟨w.heap.size + 1, 1, none⟩ = some (.int .u64 b') ∧ w'.cell? ⟨w.heap.size + 1, 2, none⟩ = some (.int .u32 s'))) (by kernel_rfl) hS1.out (fun hHeld => ?_)
  clear hS1
  refine wpAnyH_take (i := 0) (v := (ptv a b s)) rfl (by kernel_rfl) (by kernel_rfl) (by kernel_rfl) (fun _ _ _ h => h) (Or.inl ⟨by rfl, ?_⟩) (by assumption) ?_
  · intro w hS
    obtain ⟨-, c0, c1, c2, c3, c4, c5⟩ := hS
    go_simp
    try with_reducible rfl
  simp [Act.put]
  refine wpAnyH_take (i := 1) (v := (ptv a' b' s')) rfl (by kernel_rfl) (by kernel_rfl) (by kernel_rfl) (fun _ _ _ h => h) (Or.inl ⟨by rfl, ?_⟩) (by assumption) ?_
  · intro w hS
    obtain ⟨-, c0, c1, c2, c3, c4, c5⟩ := hS
    go_simp
    try with_reducible rfl
  simp [Act.put]
  refine wpAnyH_ready (rs := [2]) (by kernel_rfl) (by simp) ?_
  refine AllReadyH.cons rfl (fun K hK => ?_) AllReadyH.nil
  go_simp
  refine (HPQ.out _).mono ?_
  rintro e wX ⟨rfl, hX⟩
  refine hK.out _ _ (HK2.out _ (Below.trans hHeld.1 (hX.mono hHeld.1.size))) (fun hHeld2 => ?_)
  clear hK K
  try simp
  clear hHeld hX
  have hHeld := hHeld2
  clear hHeld2
  refine wpAnyH_take (i := 3) (v := (.bool true)) rfl (by kernel_rfl) (by kernel_rfl) (by kernel_rfl) (fun _ _ _ h => h) (Or.inl ⟨by rfl, ?_⟩) (by assumption) ?_
  · intro w hS
    obtain ⟨-, c0, c1, c2, c3, c4, c5⟩ := hS
    go_simp
    try with_reducible rfl
  simp [Act.put]
  refine wpAnyH_take (i := 4) (v := (ptv a' b' s')) rfl (by kernel_rfl) (by kernel_rfl) (by kernel_rfl) (fun _ _ _ h => h) (Or.inl ⟨by rfl, ?_⟩) (by assumption) ?_
  · intro w hS
    obtain ⟨-, c0, c1, c2, c3, c4, c5⟩ := hS
    go_simp
    try with_reducible rfl
  simp [Act.put]
  refine wpAnyH_take (i := 5) (v := (ptv a b s)) rfl (by kernel_rfl) (by kernel_rfl) (by kernel_rfl) (fun _ _ _ h => h) (Or.inl ⟨by rfl, ?_⟩) (by assumption) ?_
  · intro w hS
    obtain ⟨-, c0, c1, c2, c3, c4, c5⟩ := hS
    go_simp
    try with_reducible rfl
  simp [Act.put]
  refine wpAnyH_ready (rs := [6]) (by kernel_rfl) (by simp) ?_
  refine AllReadyH.cons rfl (fun K hK => ?_) AllReadyH.nil
  go_simp
  refine (HQP.out _).mono ?_
  rintro e wX ⟨rfl, hX⟩
  refine hK.out _ _ (HK2.out _ (Below.trans hHeld.1 (hX.mono hHeld.1.size))) (fun hHeld2 => ?_)
  clear hK K
  try simp
  clear hHeld hX
  have hHeld := hHeld2
  clear hHeld2
  refine wpAnyH_take (i := 7) (v := (.bool false)) rfl (by kernel_rfl) (by kernel_rfl) (by kernel_rfl) (fun _ _ _ h => h) (Or.inl ⟨by rfl, ?_⟩) (by assumption) ?_
  · intro w hS
    obtain ⟨-, c0, c1, c2, c3, c4, c5⟩ := hS
    go_simp
    try with_reducible rfl
  simp [Act.put]
  refine wpAnyH_take (i := 8) (v := (.bool false)) rfl (by kernel_rfl) (by kernel_rfl) (by kernel_rfl) (fun _ _ _ h => h) (Or.inl ⟨by rfl, ?_⟩) (by assumption) ?_
  · intro w hS
    obtain ⟨-, c0, c1, c2, c3, c4, c5⟩ := hS
    go_simp
    try with_reducible rfl
  simp [Act.put]
  refine wpAnyH_take (i := 9) (v := (ptv a b s)) rfl (by kernel_rfl) (by kernel_rfl) (by kernel_rfl) (fun _ _ _ h => h) (Or.inl ⟨by rfl, ?_⟩) (by assumption) ?_
  · intro w hS
    obtain ⟨-, c0, c1, c2, c3, c4, c5⟩ := hS
    go_simp
    try with_reducible rfl
  simp [Act.put]
  refine wpAnyH_take (i := 10) (v := (ptv a' b' s')) rfl (by kernel_rfl) (by kernel_rfl) (by kernel_rfl) (fun _ _ _ h => h) (Or.inl ⟨by rfl, ?_⟩) (by assumption) ?_
  · intro w hS
    obtain ⟨-, c0, c1, c2, c3, c4, c5⟩ := hS
    go_simp
    try with_reducible rfl
  simp [Act.put]
  refine wpAnyH_take (i := 19) (v := (ptv a b s)) rfl (by kernel_rfl) (by kernel_rfl) (by kernel_rfl) (fun _ _ _ h => h) (Or.inl ⟨by rfl, ?_⟩) (by assumption) ?_
  · intro w hS
    obtain ⟨-, c0, c1, c2, c3, c4, c5⟩ := hS
    go_simp
    try with_reducible rfl
  simp [Act.put]
  refine wpAnyH_take (i := 20) (v := (ptv a' b' s')) rfl (by kernel_rfl) (by kernel_rfl) (by kernel_rfl) (fun _ _ _ h => h) (Or.inl ⟨by rfl, ?_⟩) (by assumption) ?_
  · intro w hS
    obtain ⟨-, c0, c1, c2, c3, c4, c5⟩ := hS
    go_simp
    try with_reducible rfl
  simp [Act.put]
  refine wpAnyH_take (i := 21) (v := (.bool false)) rfl (by kernel_rfl) (by kernel_rfl) (by kernel_rfl) (fun _ _ _ h => h) (Or.inl ⟨by rfl, ?_⟩) (by assumption) ?_
  · intro w hS
    obtain ⟨-, c0, c1, c2, c3, c4, c5⟩ := hS
    go_simp
    try with_reducible rfl
  simp [Act.put]
  refine wpAnyH_ready (rs := [11]) (by kernel_rfl) (by simp) ?_
  refine AllReadyH.cons rfl (fun K hK => ?_) AllReadyH.nil
  go_simp
  refine (HPQ.out _).mono ?_
  rintro e wX ⟨rfl, hX⟩
  refine hK.out _ _ (HK2.out _ (Below.trans hHeld.1 (hX.mono hHeld.1.size))) (fun hHeld2 => ?_)
  clear hK K
  try simp
  clear hHeld hX
  have hHeld := hHeld2
  clear hHeld2
  refine wpAnyH_take (i := 12) (v := (.bool false)) rfl (by kernel_rfl) (by kernel_rfl) (by kernel_rfl) (fun _ _ _ h => h) (Or.inl ⟨by rfl, ?_⟩) (by assumption) ?_
  · intro w hS
    obtain ⟨-, c0, c1, c2, c3, c4, c5⟩ := hS
    go_simp
    try with_reducible rfl
  simp [Act.put]
  refine wpAnyH_take (i := 13) (v := (.bool false)) rfl (by kernel_rfl) (by kernel_rfl) (by kernel_rfl) (fun _ _ _ h => h) (Or.inl ⟨by rfl, ?_⟩) (by assumption) ?_
  · intro w hS
    obtain ⟨-, c0, c1, c2, c3, c4, c5⟩ := hS
    go_simp
    try with_reducible rfl
  simp [Act.put]
  refine wpAnyH_take (i := 14) (v := undef) rfl (by kernel_rfl) (by kernel_rfl) (by kernel_rfl) (fun _ _ _ h => h) (Or.inr ⟨by rfl, rfl⟩) (by assumption) ?_
  simp [Act.put]
  refine wpAnyH_take (i := 15) (v := undef) rfl (by kernel_rfl) (by kernel_rfl) (by kernel_rfl) (fun _ _ _ h => h) (Or.inr ⟨by rfl, rfl⟩) (by assumption) ?_
  simp [Act.put]
  refine wpAnyH_take (i := 16) (v := undef) rfl (by kernel_rfl) (by kernel_rfl) (by kernel_rfl) (fun _ _ _ h => h) (Or.inr ⟨by rfl, rfl⟩) (by assumption) ?_
  simp [Act.put]
  refine wpAnyH_take (i := 17) (v := undef) rfl (by kernel_rfl) (by kernel_rfl) (by kernel_rfl) (fun _ _ _ h => h) (Or.inr ⟨by rfl, rfl⟩) (by assumption) ?_
  simp [Act.put]
  refine wpAnyH_take (i := 18) (v := (.bool false)) rfl (by kernel_rfl) (by kernel_rfl) (by kernel_rfl) (fun _ _ _ h => h) (Or.inl ⟨by rfl, ?_⟩) (by assumption) ?_
  · intro w hS
    obtain ⟨-, c0, c1, c2, c3, c4, c5⟩ := hS
    go_simp
    try with_reducible rfl
  simp [Act.put]
  refine wpAnyH_take (i := 22) (v := (.bool false)) rfl (by kernel_rfl) (by kernel_rfl) (by kernel_rfl) (fun _ _ _ h => h) (Or.inl ⟨by rfl, ?_⟩) (by assumption) ?_
  · intro w hS
    obtain ⟨-, c0, c1, c2, c3, c4, c5⟩ := hS
    go_simp
    try with_reducible rfl
  simp [Act.put]
  refine wpAnyH_take (i := 23) (v := (.bool false)) rfl (by kernel_rfl) (by kernel_rfl) (by kernel_rfl) (fun _ _ _ h => h) (Or.inl ⟨by rfl, ?_⟩) (by assumption) ?_
  · intro w hS
    obtain ⟨-, c0, c1, c2, c3, c4, c5⟩ := hS
    go_simp
    try with_reducible rfl
  simp [Act.put]
  refine wpAnyH_done (by kernel_rfl) ?_ _
  all_goals
    obtain ⟨hE, -⟩ := hHeld
    obtain ⟨⟨c0, c1, c2, c3, c4, c5⟩, c6, c7, c8⟩ := HK.out _ hE
    go_wp2_with (first
    | (go_at_call 12; with_reducible refine Calls.mono (HPQ.out _) ?_; rintro e wX ⟨rfl, hX⟩; have hE := Below.trans hE (Below.mono hX hE.size); obtain ⟨⟨c0, c1, c2, c3, c4, c5⟩, c6, c7, c8⟩ := HK.out _ hE; clear hX)
    | (go_at_call 12; with_reducible refine Calls.mono (HQP.out _) ?_; rintro e wX ⟨rfl, hX⟩; have hE := Below.trans hE (Below.mono hX hE.size); obtain ⟨⟨c0, c1, c2, c3, c4, c5⟩, c6, c7, c8⟩ := HK.out _ hE; clear hX)
    | (go_at_call 12; with_reducible refine Calls.mono (HQR.out _) ?_; rintro e wX ⟨rfl, hX⟩; have hE := Below.trans hE (Below.mono hX hE.size); obtain ⟨⟨c0, c1, c2, c3, c4, c5⟩, c6, c7, c8⟩ := HK.out _ hE; clear hX)
    | (go_at_call 12; with_reducible refine Calls.mono (HRP.out _) ?_; rintro e wX ⟨rfl, hX⟩; have hE := Below.trans hE (Below.mono hX hE.size); obtain ⟨⟨c0, c1, c2, c3, c4, c5⟩, c6, c7, c8⟩ := HK.out _ hE; clear hX)
    | (go_at_call 14; with_reducible refine Calls.mono (HS.out _) ?_; rintro e wX ⟨rfl, hX⟩; have hE := Below.trans hE (Below.mono hX hE.size); obtain ⟨⟨c0, c1, c2, c3, c4, c5⟩, c6, c7, c8⟩ := HK.out _ hE; clear hX))
    go_ret
    exact ⟨rfl, HB1.out.trans (hE.mono HB1.out.size)⟩

theorem ptrOrder_A2F (hx : lessF a b s a' b' s' = true) (hy : lessF a' b' s' a b s = false) (he : (a == a' && b == b' && s == s') = false) (hz : lessF a' b' s' i j k = false) (hs : sinceF a b s j = false) :
    Calls Try.prog 7 #[ptv a b s, ptv a' b' s', ptv i j k] w fun e w' => e = .returned (.bool true) ∧ Below w.heap.size w w' := by
  have HA := Lib.hid alive_any
  have HPQ := Lib.hid (less_is hx)
  have HQP := Lib.hid (less_is hy)
  have HQR := Lib.hid (less_is hz)
  have HS := Lib.hid (since_is hs)
  have hq := run_eqP a b s a' b' s'
  rw [he] at hq
  clear hx hy he hz hs
  go_enter Try.func7, Try.ntmps7
  go_wp2_with fail
  have HK := Lib.hid (fun w1 => three_at (w := w) (w1 := w1) (a := a) (b := b) (s := s) (a' := a') (b' := b') (s' := s') (i := i) (j := j) (k := k))
  have hb0 : Below w.heap.size w (((w.alloc (pto a b s)).alloc (pto a' b' s')).alloc (pto i j k)) := (below_two' w _ _).alloc (by simp; omega) _
  generalize ((w.alloc (pto a b s)).alloc (pto a' b' s')).alloc (pto i j k) = w0 at *
  have HB0 := Lib.hid hb0
  clear hb0
  refine (HA.out _).mono ?_
  rintro e w1 ⟨rfl, hb1⟩
  have HK1 : Hid (∀ w', Below w1.heap.size w1 w' → Three w' w.heap.size a b s a' b' s' i j k) := fun w' hw => HK.out w' (hb1.trans (hw.mono hb1.size))
  have HB1 := Lib.hid (HB0.out.trans (hb1.mono HB0.out.size))
  clear HK HB0 hb1
  have HK := Lib.hid HK1.out
  clear HK1
  have HK2 : Hid (∀ w', Below w1.heap.size w1 w' → Below w1.heap.size w1 w' ∧ w'.cell? ⟨w.heap.size, 0, none⟩ = some (.int .i64 a) ∧ w'.cell? ⟨w.heap.size, 1, none⟩ = some (.int .u64 b) ∧ w'.cell? ⟨w.heap.size, 2, none⟩ = some (.int .u32 s) ∧ w'.cell? ⟨w.heap.size + 1, 0, none⟩ = some (.int .i64 a') ∧ w'.cell? ⟨w.heap.size + 1, 1, none⟩ = some (.int .u64 b') ∧ w'.cell? ⟨w.heap.size + 1, 2, none⟩ = some (.int .u32 s')) := fun w' hw => ⟨hw, (HK.out w' hw).1⟩
  go_wp2_with fail
  have hS1 : Hid ((fun w' => Below w1.heap.size w1 w' ∧ w'.cell? ⟨w.heap.size, 0, none⟩ = some (.int .i64 a) ∧ w'.cell? ⟨w.heap.size, 1, none⟩ = some (.int .u64 b) ∧ w'.cell? ⟨w.heap.size, 2, none⟩ = some (.int .u32 s) ∧ w'.cell? ⟨w.heap.size + 1, 0, none⟩ = some (.int .i64 a') ∧ w'.cell? ⟨w.heap.size + 1, 1, none⟩ = some (.int .u64 b') ∧ w'.cell? ⟨w.heap.size + 1, 2, none⟩ = some (.int .u32 s')) w1.drew) := HK2.out _ (Below.refl _ _).drew
  refine wp_region_held_drew (S := (fun w' => Below w1.heap.size w1 w' ∧ w'.cell? ⟨w.heap.size, 0, none⟩ = some (.int .i64 a) ∧ w'.cell? ⟨w.heap.size, 1, none⟩ = some (.int .u64 b) ∧ w'.cell? ⟨w.heap.size, 2, none⟩ = some (.int .u32 s) ∧ w'.cell? ⟨w.heap.size + 1, 0, none⟩ = some (.int .i64 a') ∧ w'.cell? ⟨w.heap.size + 1, 1, none⟩ = some (.int .u64 b') ∧ w'.cell? ⟨w.heap.size + 1, 2, none⟩ = some (.int .u32 s'))) (by kernel_rfl) hS1.out (fun hHeld => ?_)
  clear hS1
  refine wpAnyH_take (i := 0) (v := (ptv a b s)) rfl (by kernel_rfl) (by kernel_rfl) (by kernel_rfl) (fun _ _ _ h => h) (Or.inl ⟨by rfl, ?_⟩) (by assumption) ?_
  · intro w hS
    obtain ⟨-, c0, c1, c2, c3, c4, c5⟩ := hS
    go_simp
    try with_reducible rfl
  simp [Act.put]
  refine wpAnyH_take (i := 1) (v := (ptv a' b' s')) rfl (by kernel_rfl) (by kernel_rfl) (by kernel_rfl) (fun _ _ _ h => h) (Or.inl ⟨by rfl, ?_⟩) (by assumption) ?_
  · intro w hS
    obtain ⟨-, c0, c1, c2, c3, c4, c5⟩ := hS
    go_simp
    try with_reducible rfl
  simp [Act.put]
  refine wpAnyH_ready (rs := [2]) (by kernel_rfl) (by simp) ?_
  refine AllReadyH.cons rfl (fun K hK => ?_) AllReadyH.nil
  go_simp
  refine (HPQ.out _).mono ?_
  rintro e wX ⟨rfl, hX⟩
  refine hK.out _ _ (HK2.out _ (Below.trans hHeld.1 (hX.mono hHeld.1.size))) (fun hHeld2 => ?_)
  clear hK K
  try simp
  clear hHeld hX
  have hHeld := hHeld2
  clear hHeld2
  refine wpAnyH_take (i := 3) (v := (.bool true)) rfl (by kernel_rfl) (by kernel_rfl) (by kernel_rfl) (fun _ _ _ h => h) (Or.inl ⟨by rfl, ?_⟩) (by assumption) ?_
  · intro w hS
    obtain ⟨-, c0, c1, c2, c3, c4, c5⟩ := hS
    go_simp
    try with_reducible rfl
  simp [Act.put]
  refine wpAnyH_take (i := 4) (v := (ptv a' b' s')) rfl (by kernel_rfl) (by kernel_rfl) (by kernel_rfl) (fun _ _ _ h => h) (Or.inl ⟨by rfl, ?_⟩) (by assumption) ?_
  · intro w hS
    obtain ⟨-, c0, c1, c2, c3, c4, c5⟩ := hS
    go_simp
    try with_reducible rfl
  simp [Act.put]
  refine wpAnyH_take (i := 5) (v := (ptv a b s)) rfl (by kernel_rfl) (by kernel_rfl) (by kernel_rfl) (fun _ _ _ h => h) (Or.inl ⟨by rfl, ?_⟩) (by assumption) ?_
  · intro w hS
    obtain ⟨-, c0, c1, c2, c3, c4, c5⟩ := hS
    go_simp
    try with_reducible rfl
  simp [Act.put]
  refine wpAnyH_ready (rs := [6]) (by kernel_rfl) (by simp) ?_
  refine AllReadyH.cons rfl (fun K hK => ?_) AllReadyH.nil
  go_simp
  refine (HQP.out _).mono ?_
  rintro e wX ⟨rfl, hX⟩
  refine hK.out _ _ (HK2.out _ (Below.trans hHeld.1 (hX.mono hHeld.1.size))) (fun hHeld2 => ?_)
  clear hK K
  try simp
  clear hHeld hX
  have hHeld := hHeld2
  clear hHeld2
  refine wpAnyH_take (i := 7) (v := (.bool false)) rfl (by kernel_rfl) (by kernel_rfl) (by kernel_rfl) (fun _ _ _ h => h) (Or.inl ⟨by rfl, ?_⟩) (by assumption) ?_
  · intro w hS
    obtain ⟨-, c0, c1, c2, c3, c4, c5⟩ := hS
    go_simp
    try with_reducible rfl
  simp [Act.put]
  refine wpAnyH_take (i := 8) (v := (.bool false)) rfl (by kernel_rfl) (by kernel_rfl) (by kernel_rfl) (fun _ _ _ h => h) (Or.inl ⟨by rfl, ?_⟩) (by assumption) ?_
  · intro w hS
    obtain ⟨-, c0, c1, c2, c3, c4, c5⟩ := hS
    go_simp
    try with_reducible rfl
  simp [Act.put]
  refine wpAnyH_take (i := 9) (v := (ptv a b s)) rfl (by kernel_rfl) (by kernel_rfl) (by kernel_rfl) (fun _ _ _ h => h) (Or.inl ⟨by rfl, ?_⟩) (by assumption) ?_
  · intro w hS
    obtain ⟨-, c0, c1, c2, c3, c4, c5⟩ := hS
    go_simp
    try with_reducible rfl
  simp [Act.put]
  refine wpAnyH_take (i := 10) (v := (ptv a' b' s')) rfl (by kernel_rfl) (by kernel_rfl) (by kernel_rfl) (fun _ _ _ h => h) (Or.inl ⟨by rfl, ?_⟩) (by assumption) ?_
  · intro w hS
    obtain ⟨-, c0, c1, c2, c3, c4, c5⟩ := hS
    go_simp
    try with_reducible rfl
  simp [Act.put]
  refine wpAnyH_take (i := 19) (v := (ptv a b s)) rfl (by kernel_rfl) (by kernel_rfl) (by kernel_rfl) (fun _ _ _ h => h) (Or.inl ⟨by rfl, ?_⟩) (by assumption) ?_
  · intro w hS
    obtain ⟨-, c0, c1, c2, c3, c4, c5⟩ := hS
    go_simp
    try with_reducible rfl
  simp [Act.put]
  refine wpAnyH_take (i := 20) (v := (ptv a' b' s')) rfl (by kernel_rfl) (by kernel_rfl) (by kernel_rfl) (fun _ _ _ h => h) (Or.inl ⟨by rfl, ?_⟩) (by assumption) ?_
  · intro w hS
    obtain ⟨-, c0, c1, c2, c3, c4, c5⟩ := hS
    go_simp
    try with_reducible rfl
  simp [Act.put]
  refine wpAnyH_take (i := 21) (v := (.bool false)) rfl (by kernel_rfl) (by kernel_rfl) (by kernel_rfl) (fun _ _ _ h => h) (Or.inl ⟨by rfl, ?_⟩) (by assumption) ?_
  · intro w hS
    obtain ⟨-, c0, c1, c2, c3, c4, c5⟩ := hS
    go_simp
    try with_reducible rfl
  simp [Act.put]
  refine wpAnyH_ready (rs := [11]) (by kernel_rfl) (by simp) ?_
  refine AllReadyH.cons rfl (fun K hK => ?_) AllReadyH.nil
  go_simp
  refine (HPQ.out _).mono ?_
  rintro e wX ⟨rfl, hX⟩
  refine hK.out _ _ (HK2.out _ (Below.trans hHeld.1 (hX.mono hHeld.1.size))) (fun hHeld2 => ?_)
  clear hK K
  try simp
  clear hHeld hX
  have hHeld := hHeld2
  clear hHeld2
  refine wpAnyH_take (i := 12) (v := (.bool false)) rfl (by kernel_rfl) (by kernel_rfl) (by kernel_rfl) (fun _ _ _ h => h) (Or.inl ⟨by rfl, ?_⟩) (by assumption) ?_
  · intro w hS
    obtain ⟨-, c0, c1, c2, c3, c4, c5⟩ := hS
    go_simp
    try with_reducible rfl
  simp [Act.put]
  refine wpAnyH_take (i := 13) (v := (.bool false)) rfl (by kernel_rfl) (by kernel_rfl) (by kernel_rfl) (fun _ _ _ h => h) (Or.inl ⟨by rfl, ?_⟩) (by assumption) ?_
  · intro w hS
    obtain ⟨-, c0, c1, c2, c3, c4, c5⟩ := hS
    go_simp
    try with_reducible rfl
  simp [Act.put]
  refine wpAnyH_take (i := 14) (v := undef) rfl (by kernel_rfl) (by kernel_rfl) (by kernel_rfl) (fun _ _ _ h => h) (Or.inr ⟨by rfl, rfl⟩) (by assumption) ?_
  simp [Act.put]
  refine wpAnyH_take (i := 15) (v := undef) rfl (by kernel_rfl) (by kernel_rfl) (by kernel_rfl) (fun _ _ _ h => h) (Or.inr ⟨by rfl, rfl⟩) (by assumption) ?_
  simp [Act.put]
  refine wpAnyH_take (i := 16) (v := undef) rfl (by kernel_rfl) (by kernel_rfl) (by kernel_rfl) (fun _ _ _ h => h) (Or.inr ⟨by rfl, rfl⟩) (by assumption) ?_
  simp [Act.put]
  refine wpAnyH_take (i := 17) (v := undef) rfl (by kernel_rfl) (by kernel_rfl) (by kernel_rfl) (fun _ _ _ h => h) (Or.inr ⟨by rfl, rfl⟩) (by assumption) ?_
  simp [Act.put]
  refine wpAnyH_take (i := 18) (v := (.bool false)) rfl (by kernel_rfl) (by kernel_rfl) (by kernel_rfl) (fun _ _ _ h => h) (Or.inl ⟨by rfl, ?_⟩) (by assumption) ?_
  · intro w hS
    obtain ⟨-, c0, c1, c2, c3, c4, c5⟩ := hS
    go_simp
    try with_reducible rfl
  simp [Act.put]
  refine wpAnyH_take (i := 22) (v := (.bool false)) rfl (by kernel_rfl) (by kernel_rfl) (by kernel_rfl) (fun _ _ _ h => h) (Or.inl ⟨by rfl, ?_⟩) (by assumption) ?_
  · intro w hS
    obtain ⟨-, c0, c1, c2, c3, c4, c5⟩ := hS
    go_simp
    try with_reducible rfl
  simp [Act.put]
  refine wpAnyH_take (i := 23) (v := (.bool false)) rfl (by kernel_rfl) (by kernel_rfl) (by kernel_rfl) (fun _ _ _ h => h) (Or.inl ⟨by rfl, ?_⟩) (by assumption) ?_
  · intro w hS
    obtain ⟨-, c0, c1, c2, c3, c4, c5⟩ := hS
    go_simp
    try with_reducible rfl
  simp [Act.put]
  refine wpAnyH_done (by kernel_rfl) ?_ _
  all_goals
    obtain ⟨hE, -⟩ := hHeld
    obtain ⟨⟨c0, c1, c2, c3, c4, c5⟩, c6, c7, c8⟩ := HK.out _ hE
    go_wp2_with (first
    | (go_at_call 12; with_reducible refine Calls.mono (HPQ.out _) ?_; rintro e wX ⟨rfl, hX⟩; have hE := Below.trans hE (Below.mono hX hE.size); obtain ⟨⟨c0, c1, c2, c3, c4, c5⟩, c6, c7, c8⟩ := HK.out _ hE; clear hX)
    | (go_at_call 12; with_reducible refine Calls.mono (HQP.out _) ?_; rintro e wX ⟨rfl, hX⟩; have hE := Below.trans hE (Below.mono hX hE.size); obtain ⟨⟨c0, c1, c2, c3, c4, c5⟩, c6, c7, c8⟩ := HK.out _ hE; clear hX)
    | (go_at_call 12; with_reducible refine Calls.mono (HQR.out _) ?_; rintro e wX ⟨rfl, hX⟩; have hE := Below.trans hE (Below.mono hX hE.size); obtain ⟨⟨c0, c1, c2, c3, c4, c5⟩, c6, c7, c8⟩ := HK.out _ hE; clear hX)
    | (go_at_call 14; with_reducible refine Calls.mono (HS.out _) ?_; rintro e wX ⟨rfl, hX⟩; have hE := Below.trans hE (Below.mono hX hE.size); obtain ⟨⟨c0, c1, c2, c3, c4, c5⟩, c6, c7, c8⟩ := HK.out _ hE; clear hX))
    go_ret
    exact ⟨rfl, HB1.out.trans (hE.mono HB1.out.size)⟩

theorem ptrOrder_BT (hx : lessF a b s a' b' s' = false) (hy : lessF a' b' s' a b s = true) (he : (a == a' && b == b' && s == s') = false) (hs : sinceF a b s j = true) (hv : lessF i j k a b s = true) :
    Calls Try.prog 7 #[ptv a b s, ptv a' b' s', ptv i j k] w fun e w' => e = .returned (.bool true) ∧ Below w.heap.size w w' := by
  have HA := Lib.hid alive_any
  have HPQ := Lib.hid (less_is hx)
  have HQP := Lib.hid (less_is hy)
  have HS := Lib.hid (since_is hs)
  have HRP := Lib.hid (less_is hv)
  have hq := run_eqP a b s a' b' s'
  rw [he] at hq
  clear hx hy he hs hv
  go_enter Try.func7, Try.ntmps7
  go_wp2_with fail
  have HK := Lib.hid (fun w1 => three_at (w := w) (w1 := w1) (a := a) (b := b) (s := s) (a' := a') (b' := b') (s' := s') (i := i) (j := j) (k := k))
  have hb0 : Below w.heap.size w (((w.alloc (pto a b s)).alloc (pto a' b' s')).alloc (pto i j k)) := (below_two' w _ _).alloc (by simp; omega) _
  generalize ((w.alloc (pto a b s)).alloc (pto a' b' s')).alloc (pto i j k) = w0 at *
  have HB0 := Lib.hid hb0
  clear hb0
  refine (HA.out _).mono ?_
  rintro e w1 ⟨rfl, hb1⟩
  have HK1 : Hid (∀ w', Below w1.heap.size w1 w' → Three w' w.heap.size a b s a' b' s' i j k) := fun w' hw => HK.out w' (hb1.trans (hw.mono hb1.size))
  have HB1 := Lib.hid (HB0.out.trans (hb1.mono HB0.out.size))
  clear HK HB0 hb1
  have HK := Lib.hid HK1.out
  clear HK1
  have HK2 : Hid (∀ w', Below w1.heap.size w1 w' → Below w1.heap.size w1 w' ∧ w'.cell? ⟨w.heap.size, 0, none⟩ = some (.int .i64 a) ∧ w'.cell? ⟨w.heap.size, 1, none⟩ = some (.int .u64 b) ∧ w'.cell? ⟨w.heap.size, 2, none⟩ = some (.int .u32 s) ∧ w'.cell? ⟨w.heap.size + 1, 0, none⟩ = some (.int .i64 a') ∧ w'.cell? ⟨w.heap.size + 1, 1, none⟩ = some (.int .u64 b') ∧ w'.cell? ⟨w.heap.size + 1, 2, none⟩ = some (.int .u32 s')) := fun w' hw => ⟨hw, (HK.out w' hw).1⟩
  go_wp2_with fail
  have hS1 : Hid ((fun w' => Below w1.heap.size w1 w' ∧ w'.cell? ⟨w.heap.size, 0, none⟩ = some (.int .i64 a) ∧ w'.cell? ⟨w.heap.size, 1, none⟩ = some (.int .u64 b) ∧ w'.cell? ⟨w.heap.size, 2, none⟩ = some (.int .u32 s) ∧ w'.cell? ⟨w.heap.size + 1, 0, none⟩ = some (.int .i64 a') ∧ w'.cell? ⟨w.heap.size + 1, 1, none⟩ = some (.int .u64 b') ∧ w'.cell? ⟨w.heap.size + 1, 2, none⟩ = some (.int .u32 s')) w1.drew) := HK2.out _ (Below.refl _ _).drew
  refine wp_region_held_drew (S := (fun w' => Below w1.heap.size w1 w' ∧ w'.cell? ⟨w.heap.size, 0, none⟩ = some (.int .i64 a) ∧ w'.cell? ⟨w.heap.size, 1, none⟩ = some (.int .u64 b) ∧ w'.cell? ⟨w.heap.size, 2, none⟩ = some (.int .u32 s) ∧ w'.cell? ⟨w.heap.size + 1, 0, none⟩ = some (.int .i64 a') ∧ w'.cell? ⟨w.heap.size + 1, 1, none⟩ = some (.int .u64 b') ∧ w'.cell? ⟨w.heap.size + 1, 2, none⟩ = some (.int .u32 s'))) (by kernel_rfl) hS1.out (fun hHeld => ?_)
  clear hS1
  refine wpAnyH_take (i := 0) (v := (ptv a b s)) rfl (by kernel_rfl) (by kernel_rfl) (by kernel_rfl) (fun _ _ _ h => h) (Or.inl ⟨by rfl, ?_⟩) (by assumption) ?_
  · intro w hS
    obtain ⟨-, c0, c1, c2, c3, c4, c5⟩ := hS
    go_simp
    try with_reducible rfl
  simp [Act.put]
  refine wpAnyH_take (i := 1) (v := (ptv a' b' s')) rfl (by kernel_rfl) (by kernel_rfl) (by kernel_rfl) (fun _ _ _ h => h) (Or.inl ⟨by rfl, ?_⟩) (by assumption) ?_
  · intro w hS
    obtain ⟨-, c0, c1, c2, c3, c4, c5⟩ := hS
    go_simp
    try with_reducible rfl
  simp [Act.put]
  refine wpAnyH_ready (rs := [2]) (by kernel_rfl) (by simp) ?_
  refine AllReadyH.cons rfl (fun K hK => ?_) AllReadyH.nil
  go_simp
  refine (HPQ.out _).mono ?_
  rintro e wX ⟨rfl, hX⟩
  refine hK.out _ _ (HK2.out _ (Below.trans hHeld.1 (hX.mono hHeld.1.size))) (fun hHeld2 => ?_)
  clear hK K
  try simp
  clear hHeld hX
  have hHeld := hHeld2
  clear hHeld2
  refine wpAnyH_take (i := 3) (v := (.bool false)) rfl (by kernel_rfl) (by kernel_rfl) (by kernel_rfl) (fun _ _ _ h => h) (Or.inl ⟨by rfl, ?_⟩) (by assumption) ?_
  · intro w hS
    obtain ⟨-, c0, c1, c2, c3, c4, c5⟩ := hS
    go_simp
    try with_reducible rfl
  simp [Act.put]
  refine wpAnyH_take (i := 4) (v := undef) rfl (by kernel_rfl) (by kernel_rfl) (by kernel_rfl) (fun _ _ _ h => h) (Or.inr ⟨by rfl, rfl⟩) (by assumption) ?_
  simp [Act.put]
  refine wpAnyH_take (i := 5) (v := undef) rfl (by kernel_rfl) (by kernel_rfl) (by kernel_rfl) (fun _ _ _ h => h) (Or.inr ⟨by rfl, rfl⟩) (by assumption) ?_
  simp [Act.put]
  refine wpAnyH_take (i := 6) (v := undef) rfl (by kernel_rfl) (by kernel_rfl) (by kernel_rfl) (fun _ _ _ h => h) (Or.inr ⟨by rfl, rfl⟩) (by assumption) ?_
  simp [Act.put]
  refine wpAnyH_take (i := 7) (v := (.bool false)) rfl (by kernel_rfl) (by kernel_rfl) (by kernel_rfl) (fun _ _ _ h => h) (Or.inl ⟨by rfl, ?_⟩) (by assumption) ?_
  · intro w hS
    obtain ⟨-, c0, c1, c2, c3, c4, c5⟩ := hS
    go_simp
    try with_reducible rfl
  simp [Act.put]
  refine wpAnyH_take (i := 8) (v := (.bool false)) rfl (by kernel_rfl) (by kernel_rfl) (by kernel_rfl) (fun _ _ _ h => h) (Or.inl ⟨by rfl, ?_⟩) (by assumption) ?_
  · intro w hS
    obtain ⟨-, c0, c1, c2, c3, c4, c5⟩ := hS
    go_simp
    try with_reducible rfl
  simp [Act.put]
  refine wpAnyH_take (i := 9) (v := (ptv a b s)) rfl (by kernel_rfl) (by kernel_rfl) (by kernel_rfl) (fun _ _ _ h => h) (Or.inl ⟨by rfl, ?_⟩) (by assumption) ?_
  · intro w hS
    obtain ⟨-, c0, c1, c2, c3, c4, c5⟩ := hS
    go_simp
    try with_reducible rfl
  simp [Act.put]
  refine wpAnyH_take (i := 10) (v := (ptv a' b' s')) rfl (by kernel_rfl) (by kernel_rfl) (by kernel_rfl) (fun _ _ _ h => h) (Or.inl ⟨by rfl, ?_⟩) (by assumption) ?_
  · intro w hS
    obtain ⟨-, c0, c1, c2, c3, c4, c5⟩ := hS
    go_simp
    try with_reducible rfl
  simp [Act.put]
  refine wpAnyH_take (i := 19) (v := (ptv a b s)) rfl (by kernel_rfl) (by kernel_rfl) (by kernel_rfl) (fun _ _ _ h => h) (Or.inl ⟨by rfl, ?_⟩) (by assumption) ?_
  · intro w hS
    obtain ⟨-, c0, c1, c2, c3, c4, c5⟩ := hS
    go_simp
    try with_reducible rfl
  simp [Act.put]
  refine wpAnyH_take (i := 20) (v := (ptv a' b' s')) rfl (by kernel_rfl) (by kernel_rfl) (by kernel_rfl) (fun _ _ _ h => h) (Or.inl ⟨by rfl, ?_⟩) (by assumption) ?_
  · intro w hS
    obtain ⟨-, c0, c1, c2, c3, c4, c5⟩ := hS
    go_simp
    try with_reducible rfl
  simp [Act.put]
  refine wpAnyH_take (i := 21) (v := (.bool false)) rfl (by kernel_rfl) (by kernel_rfl) (by kernel_rfl) (fun _ _ _ h => h) (Or.inl ⟨by rfl, ?_⟩) (by assumption) ?_
  · intro w hS
    obtain ⟨-, c0, c1, c2, c3, c4, c5⟩ := hS
    go_simp
    try with_reducible rfl
  simp [Act.put]
  refine wpAnyH_ready (rs := [11]) (by kernel_rfl) (by simp) ?_
  refine AllReadyH.cons rfl (fun K hK => ?_) AllReadyH.nil
  go_simp
  refine (HPQ.out _).mono ?_
  rintro e wX ⟨rfl, hX⟩
  refine hK.out _ _ (HK2.out _ (Below.trans hHeld.1 (hX.mono hHeld.1.size))) (fun hHeld2 => ?_)
  clear hK K
  try simp
  clear hHeld hX
  have hHeld := hHeld2
  clear hHeld2
  refine wpAnyH_take (i := 12) (v := (.bool true)) rfl (by kernel_rfl) (by kernel_rfl) (by kernel_rfl) (fun _ _ _ h => h) (Or.inl ⟨by rfl, ?_⟩) (by assumption) ?_
  · intro w hS
    obtain ⟨-, c0, c1, c2, c3, c4, c5⟩ := hS
    go_simp
    try with_reducible rfl
  simp [Act.put]
  refine wpAnyH_take (i := 13) (v := (.bool true)) rfl (by kernel_rfl) (by kernel_rfl) (by kernel_rfl) (fun _ _ _ h => h) (Or.inl ⟨by rfl, ?_⟩) (by assumption) ?_
  · intro w hS
    obtain ⟨-, c0, c1, c2, c3, c4, c5⟩ := hS
    go_simp
    try with_reducible rfl
  simp [Act.put]
  refine wpAnyH_take (i := 14) (v := (ptv a' b' s')) rfl (by kernel_rfl) (by kernel_rfl) (by kernel_rfl) (fun _ _ _ h => h) (Or.inl ⟨by rfl, ?_⟩) (by assumption) ?_
  · intro w hS
    obtain ⟨-, c0, c1, c2, c3, c4, c5⟩ := hS
    go_simp
    try with_reducible rfl
  simp [Act.put]
  refine wpAnyH_take (i := 15) (v := (ptv a b s)) rfl (by kernel_rfl) (by kernel_rfl) (by kernel_rfl) (fun _ _ _ h => h) (Or.inl ⟨by rfl, ?_⟩) (by assumption) ?_
  · intro w hS
    obtain ⟨-, c0, c1, c2, c3, c4, c5⟩ := hS
    go_simp
    try with_reducible rfl
  simp [Act.put]
  refine wpAnyH_ready (rs := [16]) (by kernel_rfl) (by simp) ?_
  refine AllReadyH.cons rfl (fun K hK => ?_) AllReadyH.nil
  go_simp
  refine (HQP.out _).mono ?_
  rintro e wX ⟨rfl, hX⟩
  refine hK.out _ _ (HK2.out _ (Below.trans hHeld.1 (hX.mono hHeld.1.size))) (fun hHeld2 => ?_)
  clear hK K
  try simp
  clear hHeld hX
  have hHeld := hHeld2
  clear hHeld2
  refine wpAnyH_take (i := 17) (v := (.bool false)) rfl (by kernel_rfl) (by kernel_rfl) (by kernel_rfl) (fun _ _ _ h => h) (Or.inl ⟨by rfl, ?_⟩) (by assumption) ?_
  · intro w hS
    obtain ⟨-, c0, c1, c2, c3, c4, c5⟩ := hS
    go_simp
    try with_reducible rfl
  simp [Act.put]
  refine wpAnyH_take (i := 18) (v := (.bool false)) rfl (by kernel_rfl) (by kernel_rfl) (by kernel_rfl) (fun _ _ _ h => h) (Or.inl ⟨by rfl, ?_⟩) (by assumption) ?_
  · intro w hS
    obtain ⟨-, c0, c1, c2, c3, c4, c5⟩ := hS
    go_simp
    try with_reducible rfl
  simp [Act.put]
  refine wpAnyH_take (i := 22) (v := (.bool false)) rfl (by kernel_rfl) (by kernel_rfl) (by kernel_rfl) (fun _ _ _ h => h) (Or.inl ⟨by rfl, ?_⟩) (by assumption) ?_
  · intro w hS
    obtain ⟨-, c0, c1, c2, c3, c4, c5⟩ := hS
    go_simp
    try with_reducible rfl
  simp [Act.put]
  refine wpAnyH_take (i := 23) (v := (.bool false)) rfl (by kernel_rfl) (by kernel_rfl) (by kernel_rfl) (fun _ _ _ h => h) (Or.inl ⟨by rfl, ?_⟩) (by assumption) ?_
  · intro w hS
    obtain ⟨-, c0, c1, c2, c3, c4, c5⟩ := hS
    go_simp
    try with_reducible rfl
  simp [Act.put]
  refine wpAnyH_done (by kernel_rfl) ?_ _
  all_goals
    obtain ⟨hE, -⟩ := hHeld
    obtain ⟨⟨c0, c1, c2, c3, c4, c5⟩, c6, c7, c8⟩ := HK.out _ hE
    go_wp2_with (first
    | (go_at_call 12; with_reducible refine Calls.mono (HPQ.out _) ?_; rintro e wX ⟨rfl, hX⟩; have hE := Below.trans hE (Below.mono hX hE.size); obtain ⟨⟨c0, c1, c2, c3, c4, c5⟩, c6, c7, c8⟩ := HK.out _ hE; clear hX)
    | (go_at_call 12; with_reducible refine Calls.mono (HQP.out _) ?_; rintro e wX ⟨rfl, hX⟩; have hE := Below.trans hE (Below.mono hX hE.size); obtain ⟨⟨c0, c1, c2, c3, c4, c5⟩, c6, c7, c8⟩ := HK.out _ hE; clear hX)
    | (go_at_call 12; with_reducible refine Calls.mono (HRP.out _) ?_; rintro e wX ⟨rfl, hX⟩; have hE := Below.trans hE (Below.mono hX hE.size); obtain ⟨⟨c0, c1, c2, c3, c4, c5⟩, c6, c7, c8⟩ := HK.out _ hE; clear hX)
    | (go_at_call 14; with_reducible refine Calls.mono (HS.out _) ?_; rintro e wX ⟨rfl, hX⟩; have hE := Below.trans hE (Below.mono hX hE.size); obtain ⟨⟨c0, c1, c2, c3, c4, c5⟩, c6, c7, c8⟩ := HK.out _ hE; clear hX))
    go_ret
    exact ⟨rfl, HB1.out.trans (hE.mono HB1.out.size)⟩

theorem ptrOrder_BF (hx : lessF a b s a' b' s' = false) (hy : lessF a' b' s' a b s = true) (he : (a == a' && b == b' && s == s') = false) (hs : sinceF a b s j = false) :
    Calls Try.prog 7 #[ptv a b s, ptv a' b' s', ptv i j k] w fun e w' => e = .returned (.bool true) ∧ Below w.heap.size w w' := by
  have HA := Lib.hid alive_any
  have HPQ := Lib.hid (less_is hx)
  have HQP := Lib.hid (less_is hy)
  have HS := Lib.hid (since_is hs)
  have hq := run_eqP a b s a' b' s'
  rw [he] at hq
  clear hx hy he hs
  go_enter Try.func7, Try.ntmps7
  go_wp2_with fail
  have HK := Lib.hid (fun w1 => three_at (w := w) (w1 := w1) (a := a) (b := b) (s := s) (a' := a') (b' := b') (s' := s') (i := i) (j := j) (k := k))
  have hb0 : Below w.heap.size w (((w.alloc (pto a b s)).alloc (pto a' b' s')).alloc (pto i j k)) := (below_two' w _ _).alloc (by simp; omega) _
  generalize ((w.alloc (pto a b s)).alloc (pto a' b' s')).alloc (pto i j k) = w0 at *
  have HB0 := Lib.hid hb0
  clear hb0
  refine (HA.out _).mono ?_
  rintro e w1 ⟨rfl, hb1⟩
  have HK1 : Hid (∀ w', Below w1.heap.size w1 w' → Three w' w.heap.size a b s a' b' s' i j k) := fun w' hw => HK.out w' (hb1.trans (hw.mono hb1.size))
  have HB1 := Lib.hid (HB0.out.trans (hb1.mono HB0.out.size))
  clear HK HB0 hb1
  have HK := Lib.hid HK1.out
  clear HK1
  have HK2 : Hid (∀ w', Below w1.heap.size w1 w' → Below w1.heap.size w1 w' ∧ w'.cell? ⟨w.heap.size, 0, none⟩ = some (.int .i64 a) ∧ w'.cell? ⟨w.heap.size, 1, none⟩ = some (.int .u64 b) ∧ w'.cell? ⟨w.heap.size, 2, none⟩ = some (.int .u32 s) ∧ w'.cell? ⟨w.heap.size + 1, 0, none⟩ = some (.int .i64 a') ∧ w'.cell? ⟨w.heap.size + 1, 1, none⟩ = some (.int .u64 b') ∧ w'.cell? ⟨w.heap.size + 1, 2, none⟩ = some (.int .u32 s')) := fun w' hw => ⟨hw, (HK.out w' hw).1⟩
  go_wp2_with fail
  have hS1 : Hid ((fun w' => Below w1.heap.size w1 w' ∧ w'.cell? ⟨w.heap.size, 0, none⟩ = some (.int .i64 a) ∧ w'.cell? ⟨w.heap.size, 1, none⟩ = some (.int .u64 b) ∧ w'.cell? ⟨w.heap.size, 2, none⟩ = some (.int .u32 s) ∧ w'.cell? ⟨w.heap.size + 1, 0, none⟩ = some (.int .i64 a') ∧ w'.cell? ⟨w.heap.size + 1, 1, none⟩ = some (.int .u64 b') ∧ w'.cell? ⟨w.heap.size + 1, 2, none⟩ = some (.int .u32 s')) w1.drew) := HK2.out _ (Below.refl _ _).drew
  refine wp_region_held_drew (S := (fun w' => Below w1.heap.size w1 w' ∧ w'.cell? ⟨w.heap.size, 0, none⟩ = some (.int .i64 a) ∧ w'.cell? ⟨w.heap.size, 1, none⟩ = some (.int .u64 b) ∧ w'.cell? ⟨w.heap.size, 2, none⟩ = some (.int .u32 s) ∧ w'.cell? ⟨w.heap.size + 1, 0, none⟩ = some (.int .i64 a') ∧ w'.cell? ⟨w.heap.size + 1, 1, none⟩ = some (.int .u64 b') ∧ w'.cell? ⟨w.heap.size + 1, 2, none⟩ = some (.int .u32 s'))) (by kernel_rfl) hS1.out (fun hHeld => ?_)
  clear hS1
  refine wpAnyH_take (i := 0) (v := (ptv a b s)) rfl (by kernel_rfl) (by kernel_rfl) (by kernel_rfl) (fun _ _ _ h => h) (Or.inl ⟨by rfl, ?_⟩) (by assumption) ?_
  · intro w hS
    obtain ⟨-, c0, c1, c2, c3, c4, c5⟩ := hS
    go_simp
    try with_reducible rfl
  simp [Act.put]
  refine wpAnyH_take (i := 1) (v := (ptv a' b' s')) rfl (by kernel_rfl) (by kernel_rfl) (by kernel_rfl) (fun _ _ _ h => h) (Or.inl ⟨by rfl, ?_⟩) (by assumption) ?_
  · intro w hS
    obtain ⟨-, c0, c1, c2, c3, c4, c5⟩ := hS
    go_simp
    try with_reducible rfl
  simp [Act.put]
  refine wpAnyH_ready (rs := [2]) (by kernel_rfl) (by simp) ?_
  refine AllReadyH.cons rfl (fun K hK => ?_) AllReadyH.nil
  go_simp
  refine (HPQ.out _).mono ?_
  rintro e wX ⟨rfl, hX⟩
  refine hK.out _ _ (HK2.out _ (Below.trans hHeld.1 (hX.mono hHeld.1.size))) (fun hHeld2 => ?_)
  clear hK K
  try simp
  clear hHeld hX
  have hHeld := hHeld2
  clear hHeld2
  refine wpAnyH_take (i := 3) (v := (.bool false)) rfl (by kernel_rfl) (by kernel_rfl) (by kernel_rfl) (fun _ _ _ h => h) (Or.inl ⟨by rfl, ?_⟩) (by assumption) ?_
  · intro w hS
    obtain ⟨-, c0, c1, c2, c3, c4, c5⟩ := hS
    go_simp
    try with_reducible rfl
  simp [Act.put]
  refine wpAnyH_take (i := 4) (v := undef) rfl (by kernel_rfl) (by kernel_rfl) (by kernel_rfl) (fun _ _ _ h => h) (Or.inr ⟨by rfl, rfl⟩) (by assumption) ?_
  simp [Act.put]
  refine wpAnyH_take (i := 5) (v := undef) rfl (by kernel_rfl) (by kernel_rfl) (by kernel_rfl) (fun _ _ _ h => h) (Or.inr ⟨by rfl, rfl⟩) (by assumption) ?_
  simp [Act.put]
  refine wpAnyH_take (i := 6) (v := undef) rfl (by kernel_rfl) (by kernel_rfl) (by kernel_rfl) (fun _ _ _ h => h) (Or.inr ⟨by rfl, rfl⟩) (by assumption) ?_
  simp [Act.put]
  refine wpAnyH_take (i := 7) (v := (.bool false)) rfl (by kernel_rfl) (by kernel_rfl) (by kernel_rfl) (fun _ _ _ h => h) (Or.inl ⟨by rfl, ?_⟩) (by assumption) ?_
  · intro w hS
    obtain ⟨-, c0, c1, c2, c3, c4, c5⟩ := hS
    go_simp
    try with_reducible rfl
  simp [Act.put]
  refine wpAnyH_take (i := 8) (v := (.bool false)) rfl (by kernel_rfl) (by kernel_rfl) (by kernel_rfl) (fun _ _ _ h => h) (Or.inl ⟨by rfl, ?_⟩) (by assumption) ?_
  · intro w hS
    obtain ⟨-, c0, c1, c2, c3, c4, c5⟩ := hS
    go_simp
    try with_reducible rfl
  simp [Act.put]
  refine wpAnyH_take (i := 9) (v := (ptv a b s)) rfl (by kernel_rfl) (by kernel_rfl) (by kernel_rfl) (fun _ _ _ h => h) (Or.inl ⟨by rfl, ?_⟩) (by assumption) ?_
  · intro w hS
    obtain ⟨-, c0, c1, c2, c3, c4, c5⟩ := hS
    go_simp
    try with_reducible rfl
  simp [Act.put]
  refine wpAnyH_take (i := 10) (v := (ptv a' b' s')) rfl (by kernel_rfl) (by kernel_rfl) (by kernel_rfl) (fun _ _ _ h => h) (Or.inl ⟨by rfl, ?_⟩) (by assumption) ?_
  · intro w hS
    obtain ⟨-, c0, c1, c2, c3, c4, c5⟩ := hS
    go_simp
    try with_reducible rfl
  simp [Act.put]
  refine wpAnyH_take (i := 19) (v := (ptv a b s)) rfl (by kernel_rfl) (by kernel_rfl) (by kernel_rfl) (fun _ _ _ h => h) (Or.inl ⟨by rfl, ?_⟩) (by assumption) ?_
  · intro w hS
    obtain ⟨-, c0, c1, c2, c3, c4, c5⟩ := hS
    go_simp
    try with_reducible rfl
  simp [Act.put]
  refine wpAnyH_take (i := 20) (v := (ptv a' b' s')) rfl (by kernel_rfl) (by kernel_rfl) (by kernel_rfl) (fun _ _ _ h => h) (Or.inl ⟨by rfl, ?_⟩) (by assumption) ?_
  · intro w hS
    obtain ⟨-, c0, c1, c2, c3, c4, c5⟩ := hS
    go_simp
    try with_reducible rfl
  simp [Act.put]
  refine wpAnyH_take (i := 21) (v := (.bool false)) rfl (by kernel_rfl) (by kernel_rfl) (by kernel_rfl) (fun _ _ _ h => h) (Or.inl ⟨by rfl, ?_⟩) (by assumption) ?_
  · intro w hS
    obtain ⟨-, c0, c1, c2, c3, c4, c5⟩ := hS
    go_simp
    try with_reducible rfl
  simp [Act.put]
  refine wpAnyH_ready (rs := [11]) (by kernel_rfl) (by simp) ?_
  refine AllReadyH.cons rfl (fun K hK => ?_) AllReadyH.nil
  go_simp
  refine (HPQ.out _).mono ?_
  rintro e wX ⟨rfl, hX⟩
  refine hK.out _ _ (HK2.out _ (Below.trans hHeld.1 (hX.mono hHeld.1.size))) (fun hHeld2 => ?_)
  clear hK K
  try simp
  clear hHeld hX
  have hHeld := hHeld2
  clear hHeld2
  refine wpAnyH_take (i := 12) (v := (.bool true)) rfl (by kernel_rfl) (by kernel_rfl) (by kernel_rfl) (fun _ _ _ h => h) (Or.inl ⟨by rfl, ?_⟩) (by assumption) ?_
  · intro w hS
    obtain ⟨-, c0, c1, c2, c3, c4, c5⟩ := hS
    go_simp
    try with_reducible rfl
  simp [Act.put]
  refine wpAnyH_take (i := 13) (v := (.bool true)) rfl (by kernel_rfl) (by kernel_rfl) (by kernel_rfl) (fun _ _ _ h => h) (Or.inl ⟨by rfl, ?_⟩) (by assumption) ?_
  · intro w hS
    obtain ⟨-, c0, c1, c2, c3, c4, c5⟩ := hS
    go_simp
    try with_reducible rfl
  simp [Act.put]
  refine wpAnyH_take (i := 14) (v := (ptv a' b' s')) rfl (by kernel_rfl) (by kernel_rfl) (by kernel_rfl) (fun _ _ _ h => h) (Or.inl ⟨by rfl, ?_⟩) (by assumption) ?_
  · intro w hS
    obtain ⟨-, c0, c1, c2, c3, c4, c5⟩ := hS
    go_simp
    try with_reducible rfl
  simp [Act.put]
  refine wpAnyH_take (i := 15) (v := (ptv a b s)) rfl (by kernel_rfl) (by kernel_rfl) (by kernel_rfl) (fun _ _ _ h => h) (Or.inl ⟨by rfl, ?_⟩) (by assumption) ?_
  · intro w hS
    obtain ⟨-, c0, c1, c2, c3, c4, c5⟩ := hS
    go_simp
    try with_reducible rfl
  simp [Act.put]
  refine wpAnyH_ready (rs := [16]) (by kernel_rfl) (by simp) ?_
  refine AllReadyH.cons rfl (fun K hK => ?_) AllReadyH.nil
  go_simp
  refine (HQP.out _).mono ?_
  rintro e wX ⟨rfl, hX⟩
  refine hK.out _ _ (HK2.out _ (Below.trans hHeld.1 (hX.mono hHeld.1.size))) (fun hHeld2 => ?_)
  clear hK K
  try simp
  clear hHeld hX
  have hHeld := hHeld2
  clear hHeld2
  refine wpAnyH_take (i := 17) (v := (.bool false)) rfl (by kernel_rfl) (by kernel_rfl) (by kernel_rfl) (fun _ _ _ h => h) (Or.inl ⟨by rfl, ?_⟩) (by assumption) ?_
  · intro w hS
    obtain ⟨-, c0, c1, c2, c3, c4, c5⟩ := hS
    go_simp
    try with_reducible rfl
  simp [Act.put]
  refine wpAnyH_take (i := 18) (v := (.bool false)) rfl (by kernel_rfl) (by kernel_rfl) (by kernel_rfl) (fun _ _ _ h => h) (Or.inl ⟨by rfl, ?_⟩) (by assumption) ?_
  · intro w hS
    obtain ⟨-, c0, c1, c2, c3, c4, c5⟩ := hS
    go_simp
    try with_reducible rfl
  simp [Act.put]
  refine wpAnyH_take (i := 22) (v := (.bool false)) rfl (by kernel_rfl) (by kernel_rfl) (by kernel_rfl) (fun _ _ _ h => h) (Or.inl ⟨by rfl, ?_⟩) (by assumption) ?_
  · intro w hS
    obtain ⟨-, c0, c1, c2, c3, c4, c5⟩ := hS
    go_simp
    try with_reducible rfl
  simp [Act.put]
  refine wpAnyH_take (i := 23) (v := (.bool false)) rfl (by kernel_rfl) (by kernel_rfl) (by kernel_rfl) (fun _ _ _ h => h) (Or.inl ⟨by rfl, ?_⟩) (by assumption) ?_
  · intro w hS
    obtain ⟨-, c0, c1, c2, c3, c4, c5⟩ := hS
    go_simp
    try with_reducible rfl
  simp [Act.put]
  refine wpAnyH_done (by kernel_rfl) ?_ _
  all_goals
    obtain ⟨hE, -⟩ := hHeld
    obtain ⟨⟨c0, c1, c2, c3, c4, c5⟩, c6, c7, c8⟩ := HK.out _ hE
    go_wp2_with (first
    | (go_at_call 12; with_reducible refine Calls.mono (HPQ.out _) ?_; rintro e wX ⟨rfl, hX⟩; have hE := Below.trans hE (Below.mono hX hE.size); obtain ⟨⟨c0, c1, c2, c3, c4, c5⟩, c6, c7, c8⟩ := HK.out _ hE; clear hX)
    | (go_at_call 12; with_reducible refine Calls.mono (HQP.out _) ?_; rintro e wX ⟨rfl, hX⟩; have hE := Below.trans hE (Below.mono hX hE.size); obtain ⟨⟨c0, c1, c2, c3, c4, c5⟩, c6, c7, c8⟩ := HK.out _ hE; clear hX)
    | (go_at_call 14; with_reducible refine Calls.mono (HS.out _) ?_; rintro e wX ⟨rfl, hX⟩; have hE := Below.trans hE (Below.mono hX hE.size); obtain ⟨⟨c0, c1, c2, c3, c4, c5⟩, c6, c7, c8⟩ := HK.out _ hE; clear hX))
    go_ret
    exact ⟨rfl, HB1.out.trans (hE.mono HB1.out.size)⟩

theorem ptrOrder_CT (hx : lessF a b s a' b' s' = false) (hy : lessF a' b' s' a b s = false) (he : (a == a' && b == b' && s == s') = true) (hs : sinceF a b s j = true) (hv : lessF i j k a b s = true) :
    Calls Try.prog 7 #[ptv a b s, ptv a' b' s', ptv i j k] w fun e w' => e = .returned (.bool true) ∧ Below w.heap.size w w' := by
  have HA := Lib.hid alive_any
  have HPQ := Lib.hid (less_is hx)
  have HQP := Lib.hid (less_is hy)
  have HS := Lib.hid (since_is hs)
  have HRP := Lib.hid (less_is hv)
  have hq := run_eqP a b s a' b' s'
  rw [he] at hq
  clear hx hy he hs hv
  go_enter Try.func7, Try.ntmps7
  go_wp2_with fail
  have HK := Lib.hid (fun w1 => three_at (w := w) (w1 := w1) (a := a) (b := b) (s := s) (a' := a') (b' := b') (s' := s') (i := i) (j := j) (k := k))
  have hb0 : Below w.heap.size w (((w.alloc (pto a b s)).alloc (pto a' b' s')).alloc (pto i j k)) := (below_two' w _ _).alloc (by simp; omega) _
  generalize ((w.alloc (pto a b s)).alloc (pto a' b' s')).alloc (pto i j k) = w0 at *
  have HB0 := Lib.hid hb0
  clear hb0
  refine (HA.out _).mono ?_
  rintro e w1 ⟨rfl, hb1⟩
  have HK1 : Hid (∀ w', Below w1.heap.size w1 w' → Three w' w.heap.size a b s a' b' s' i j k) := fun w' hw => HK.out w' (hb1.trans (hw.mono hb1.size))
  have HB1 := Lib.hid (HB0.out.trans (hb1.mono HB0.out.size))
  clear HK HB0 hb1
  have HK := Lib.hid HK1.out
  clear HK1
  have HK2 : Hid (∀ w', Below w1.heap.size w1 w' → Below w1.heap.size w1 w' ∧ w'.cell? ⟨w.heap.size, 0, none⟩ = some (.int .i64 a) ∧ w'.cell? ⟨w.heap.size, 1, none⟩ = some (.int .u64 b) ∧ w'.cell? ⟨w.heap.size, 2, none⟩ = some (.int .u32 s) ∧ w'.cell? ⟨w.heap.size + 1, 0, none⟩ = some (.int .i64 a') ∧ w'.cell? ⟨w.heap.size + 1, 1, none⟩ = some (.int .u64 b') ∧ w'.cell? ⟨w.heap.size + 1, 2, none⟩ = some (.int .u32 s')) := fun w' hw => ⟨hw, (HK.out w' hw).1⟩
  go_wp2_with fail
  have hS1 : Hid ((fun w' => Below w1.heap.size w1 w' ∧ w'.cell? ⟨w.heap.size, 0, none⟩ = some (.int .i64 a) ∧ w'.cell? ⟨w.heap.size, 1, none⟩ = some (.int .u64 b) ∧ w'.cell? ⟨w.heap.size, 2, none⟩ = some (.int .u32 s) ∧ w'.cell? ⟨w.heap.size + 1, 0, none⟩ = some (.int .i64 a') ∧ w'.cell? ⟨w.heap.size + 1, 1, none⟩ = some (.int .u64 b') ∧ w'.cell? ⟨w.heap.size + 1, 2, none⟩ = some (.int .u32 s')) w1.drew) := HK2.out _ (Below.refl _ _).drew
  refine wp_region_held_drew (S := (fun w' => Below w1.heap.size w1 w' ∧ w'.cell? ⟨w.heap.size, 0, none⟩ = some (.int .i64 a) ∧ w'.cell? ⟨w.heap.size, 1, none⟩ = some (.int .u64 b) ∧ w'.cell? ⟨w.heap.size, 2, none⟩ = some (.int .u32 s) ∧ w'.cell? ⟨w.heap.size + 1, 0, none⟩ = some (.int .i64 a') ∧ w'.cell? ⟨w.heap.size + 1, 1, none⟩ = some (.int .u64 b') ∧ w'.cell? ⟨w.heap.size + 1, 2, none⟩ = some (.int .u32 s'))) (by kernel_rfl) hS1.out (fun hHeld => ?_)
  clear hS1
  refine wpAnyH_take (i := 0) (v := (ptv a b s)) rfl (by kernel_rfl) (by kernel_rfl) (by kernel_rfl) (fun _ _ _ h => h) (Or.inl ⟨by rfl, ?_⟩) (by assumption) ?_
  · intro w hS
    obtain ⟨-, c0, c1, c2, c3, c4, c5⟩ := hS
    go_simp
    try with_reducible rfl
  simp [Act.put]
  refine wpAnyH_take (i := 1) (v := (ptv a' b' s')) rfl (by kernel_rfl) (by kernel_rfl) (by kernel_rfl) (fun _ _ _ h => h) (Or.inl ⟨by rfl, ?_⟩) (by assumption) ?_
  · intro w hS
    obtain ⟨-, c0, c1, c2, c3, c4, c5⟩ := hS
    go_simp
    try with_reducible rfl
  simp [Act.put]
  refine wpAnyH_ready (rs := [2]) (by kernel_rfl) (by simp) ?_
  refine AllReadyH.cons rfl (fun K hK => ?_) AllReadyH.nil
  go_simp
  refine (HPQ.out _).mono ?_
  rintro e wX ⟨rfl, hX⟩
  refine hK.out _ _ (HK2.out _ (Below.trans hHeld.1 (hX.mono hHeld.1.size))) (fun hHeld2 => ?_)
  clear hK K
  try simp
  clear hHeld hX
  have hHeld := hHeld2
  clear hHeld2
  refine wpAnyH_take (i := 3) (v := (.bool false)) rfl (by kernel_rfl) (by kernel_rfl) (by kernel_rfl) (fun _ _ _ h => h) (Or.inl ⟨by rfl, ?_⟩) (by assumption) ?_
  · intro w hS
    obtain ⟨-, c0, c1, c2, c3, c4, c5⟩ := hS
    go_simp
    try with_reducible rfl
  simp [Act.put]
  refine wpAnyH_take (i := 4) (v := undef) rfl (by kernel_rfl) (by kernel_rfl) (by kernel_rfl) (fun _ _ _ h => h) (Or.inr ⟨by rfl, rfl⟩) (by assumption) ?_
  simp [Act.put]
  refine wpAnyH_take (i := 5) (v := undef) rfl (by kernel_rfl) (by kernel_rfl) (by kernel_rfl) (fun _ _ _ h => h) (Or.inr ⟨by rfl, rfl⟩) (by assumption) ?_
  simp [Act.put]
  refine wpAnyH_take (i := 6) (v := undef) rfl (by kernel_rfl) (by kernel_rfl) (by kernel_rfl) (fun _ _ _ h => h) (Or.inr ⟨by rfl, rfl⟩) (by assumption) ?_
  simp [Act.put]
  refine wpAnyH_take (i := 7) (v := (.bool false)) rfl (by kernel_rfl) (by kernel_rfl) (by kernel_rfl) (fun _ _ _ h => h) (Or.inl ⟨by rfl, ?_⟩) (by assumption) ?_
  · intro w hS
    obtain ⟨-, c0, c1, c2, c3, c4, c5⟩ := hS
    go_simp
    try with_reducible rfl
  simp [Act.put]
  refine wpAnyH_take (i := 8) (v := (.bool false)) rfl (by kernel_rfl) (by kernel_rfl) (by kernel_rfl) (fun _ _ _ h => h) (Or.inl ⟨by rfl, ?_⟩) (by assumption) ?_
  · intro w hS
    obtain ⟨-, c0, c1, c2, c3, c4, c5⟩ := hS
    go_simp
    try with_reducible rfl
  simp [Act.put]
  refine wpAnyH_take (i := 9) (v := (ptv a b s)) rfl (by kernel_rfl) (by kernel_rfl) (by kernel_rfl) (fun _ _ _ h => h) (Or.inl ⟨by rfl, ?_⟩) (by assumption) ?_
  · intro w hS
    obtain ⟨-, c0, c1, c2, c3, c4, c5⟩ := hS
    go_simp
    try with_reducible rfl
  simp [Act.put]
  refine wpAnyH_take (i := 10) (v := (ptv a' b' s')) rfl (by kernel_rfl) (by kernel_rfl) (by kernel_rfl) (fun _ _ _ h => h) (Or.inl ⟨by rfl, ?_⟩) (by assumption) ?_
  · intro w hS
    obtain ⟨-, c0, c1, c2, c3, c4, c5⟩ := hS
    go_simp
    try with_reducible rfl
  simp [Act.put]
  refine wpAnyH_take (i := 19) (v := (ptv a b s)) rfl (by kernel_rfl) (by kernel_rfl) (by kernel_rfl) (fun _ _ _ h => h) (Or.inl ⟨by rfl, ?_⟩) (by assumption) ?_
  · intro w hS
    obtain ⟨-, c0, c1, c2, c3, c4, c5⟩ := hS
    go_simp
    try with_reducible rfl
  simp [Act.put]
  refine wpAnyH_take (i := 20) (v := (ptv a' b' s')) rfl (by kernel_rfl) (by kernel_rfl) (by kernel_rfl) (fun _ _ _ h => h) (Or.inl ⟨by rfl, ?_⟩) (by assumption) ?_
  · intro w hS
    obtain ⟨-, c0, c1, c2, c3, c4, c5⟩ := hS
    go_simp
    try with_reducible rfl
  simp [Act.put]
  refine wpAnyH_take (i := 21) (v := (.bool true)) rfl (by kernel_rfl) (by kernel_rfl) (by kernel_rfl) (fun _ _ _ h => h) (Or.inl ⟨by rfl, ?_⟩) (by assumption) ?_
  · intro w hS
    obtain ⟨-, c0, c1, c2, c3, c4, c5⟩ := hS
    go_simp
    try with_reducible rfl
  simp [Act.put]
  refine wpAnyH_ready (rs := [11]) (by kernel_rfl) (by simp) ?_
  refine AllReadyH.cons rfl (fun K hK => ?_) AllReadyH.nil
  go_simp
  refine (HPQ.out _).mono ?_
  rintro e wX ⟨rfl, hX⟩
  refine hK.out _ _ (HK2.out _ (Below.trans hHeld.1 (hX.mono hHeld.1.size))) (fun hHeld2 => ?_)
  clear hK K
  try simp
  clear hHeld hX
  have hHeld := hHeld2
  clear hHeld2
  refine wpAnyH_take (i := 12) (v := (.bool true)) rfl (by kernel_rfl) (by kernel_rfl) (by kernel_rfl) (fun _ _ _ h => h) (Or.inl ⟨by rfl, ?_⟩) (by assumption) ?_
  · intro w hS
    obtain ⟨-, c0, c1, c2, c3, c4, c5⟩ := hS
    go_simp
    try with_reducible rfl
  simp [Act.put]
  refine wpAnyH_take (i := 13) (v := (.bool true)) rfl (by kernel_rfl) (by kernel_rfl) (by kernel_rfl) (fun _ _ _ h => h) (Or.inl ⟨by rfl, ?_⟩) (by assumption) ?_
  · intro w hS
    obtain ⟨-, c0, c1, c2, c3, c4, c5⟩ := hS
    go_simp
    try with_reducible rfl
  simp [Act.put]
  refine wpAnyH_take (i := 14) (v := (ptv a' b' s')) rfl (by kernel_rfl) (by kernel_rfl) (by kernel_rfl) (fun _ _ _ h => h) (Or.inl ⟨by rfl, ?_⟩) (by assumption) ?_
  · intro w hS
    obtain ⟨-, c0, c1, c2, c3, c4, c5⟩ := hS
    go_simp
    try with_reducible rfl
  simp [Act.put]
  refine wpAnyH_take (i := 15) (v := (ptv a b s)) rfl (by kernel_rfl) (by kernel_rfl) (by kernel_rfl) (fun _ _ _ h => h) (Or.inl ⟨by rfl, ?_⟩) (by assumption) ?_
  · intro w hS
    obtain ⟨-, c0, c1, c2, c3, c4, c5⟩ := hS
    go_simp
    try with_reducible rfl
  simp [Act.put]
  refine wpAnyH_ready (rs := [16]) (by kernel_rfl) (by simp) ?_
  refine AllReadyH.cons rfl (fun K hK => ?_) AllReadyH.nil
  go_simp
  refine (HQP.out _).mono ?_
  rintro e wX ⟨rfl, hX⟩
  refine hK.out _ _ (HK2.out _ (Below.trans hHeld.1 (hX.mono hHeld.1.size))) (fun hHeld2 => ?_)
  clear hK K
  try simp
  clear hHeld hX
  have hHeld := hHeld2
  clear hHeld2
  refine wpAnyH_take (i := 17) (v := (.bool true)) rfl (by kernel_rfl) (by kernel_rfl) (by kernel_rfl) (fun _ _ _ h => h) (Or.inl ⟨by rfl, ?_⟩) (by assumption) ?_
  · intro w hS
    obtain ⟨-, c0, c1, c2, c3, c4, c5⟩ := hS
    go_simp
    try with_reducible rfl
  simp [Act.put]
  refine wpAnyH_take (i := 18) (v := (.bool true)) rfl (by kernel_rfl) (by kernel_rfl) (by kernel_rfl) (fun _ _ _ h => h) (Or.inl ⟨by rfl, ?_⟩) (by assumption) ?_
  · intro w hS
    obtain ⟨-, c0, c1, c2, c3, c4, c5⟩ := hS
    go_simp
    try with_reducible rfl
  simp [Act.put]
  refine wpAnyH_take (i := 22) (v := (.bool false)) rfl (by kernel_rfl) (by kernel_rfl) (by kernel_rfl) (fun _ _ _ h => h) (Or.inl ⟨by rfl, ?_⟩) (by assumption) ?_
  · intro w hS
    obtain ⟨-, c0, c1, c2, c3, c4, c5⟩ := hS
    go_simp
    try with_reducible rfl
  simp [Act.put]
  refine wpAnyH_take (i := 23) (v := (.bool false)) rfl (by kernel_rfl) (by kernel_rfl) (by kernel_rfl) (fun _ _ _ h => h) (Or.inl ⟨by rfl, ?_⟩) (by assumption) ?_
  · intro w hS
    obtain ⟨-, c0, c1, c2, c3, c4, c5⟩ := hS
    go_simp
    try with_reducible rfl
  simp [Act.put]
  refine wpAnyH_done (by kernel_rfl) ?_ _
  all_goals
    obtain ⟨hE, -⟩ := hHeld
    obtain ⟨⟨c0, c1, c2, c3, c4, c5⟩, c6, c7, c8⟩ := HK.out _ hE
    go_wp2_with (first
    | (go_at_call 12; with_reducible refine Calls.mono (HPQ.out _) ?_; rintro e wX ⟨rfl, hX⟩; have hE := Below.trans hE (Below.mono hX hE.size); obtain ⟨⟨c0, c1, c2, c3, c4, c5⟩, c6, c7, c8⟩ := HK.out _ hE; clear hX)
    | (go_at_call 12; with_reducible refine Calls.mono (HQP.out _) ?_; rintro e wX ⟨rfl, hX⟩; have hE := Below.trans hE (Below.mono hX hE.size); obtain ⟨⟨c0, c1, c2, c3, c4, c5⟩, c6, c7, c8⟩ := HK.out _ hE; clear hX)
    | (go_at_call 12; with_reducible refine Calls.mono (HRP.out _) ?_; rintro e wX ⟨rfl, hX⟩; have hE := Below.trans hE (Below.mono hX hE.size); obtain ⟨⟨c0, c1, c2, c3, c4, c5⟩, c6, c7, c8⟩ := HK.out _ hE; clear hX)
    | (go_at_call 14; with_reducible refine Calls.mono (HS.out _) ?_; rintro e wX ⟨rfl, hX⟩; have hE := Below.trans hE (Below.mono hX hE.size); obtain ⟨⟨c0, c1, c2, c3, c4, c5⟩, c6, c7, c8⟩ := HK.out _ hE; clear hX))
    go_ret
    exact ⟨rfl, HB1.out.trans (hE.mono HB1.out.size)⟩

theorem ptrOrder_CF (hx : lessF a b s a' b' s' = false) (hy : lessF a' b' s' a b s = false) (he : (a == a' && b == b' && s == s') = true) (hs : sinceF a b s j = false) :
    Calls Try.prog 7 #[ptv a b s, ptv a' b' s', ptv i j k] w fun e w' => e = .returned (.bool true) ∧ Below w.heap.size w w' := by
  have HA := Lib.hid alive_any
  have HPQ := Lib.hid (less_is hx)
  have HQP := Lib.hid (less_is hy)
  have HS := Lib.hid (since_is hs)
  have hq := run_eqP a b s a' b' s'
  rw [he] at hq
  clear hx hy he hs
  go_enter Try.func7, Try.ntmps7
  go_wp2_with fail
  have HK := Lib.hid (fun w1 => three_at (w := w) (w1 := w1) (a := a) (b := b) (s := s) (a' := a') (b' := b') (s' := s') (i := i) (j := j) (k := k))
  have hb0 : Below w.heap.size w (((w.alloc (pto a b s)).alloc (pto a' b' s')).alloc (pto i j k)) := (below_two' w _ _).alloc (by simp; omega) _
  generalize ((w.alloc (pto a b s)).alloc (pto a' b' s')).alloc (pto i j k) = w0 at *
  have HB0 := Lib.hid hb0
  clear hb0
  refine (HA.out _).mono ?_
  rintro e w1 ⟨rfl, hb1⟩
  have HK1 : Hid (∀ w', Below w1.heap.size w1 w' → Three w' w.heap.size a b s a' b' s' i j k) := fun w' hw => HK.out w' (hb1.trans (hw.mono hb1.size))
  have HB1 := Lib.hid (HB0.out.trans (hb1.mono HB0.out.size))
  clear HK HB0 hb1
  have HK := Lib.hid HK1.out
  clear HK1
  have HK2 : Hid (∀ w', Below w1.heap.size w1 w' → Below w1.heap.size w1 w' ∧ w'.cell? ⟨w.heap.size, 0, none⟩ = some (.int .i64 a) ∧ w'.cell? ⟨w.heap.size, 1, none⟩ = some (.int .u64 b) ∧ w'.cell? ⟨w.heap.size, 2, none⟩ = some (.int .u32 s) ∧ w'.cell? ⟨w.heap.size + 1, 0, none⟩ = some (.int .i64 a') ∧ w'.cell? ⟨w.heap.size + 1, 1, none⟩ = some (.int .u64 b') ∧ w'.cell? ⟨w.heap.size + 1, 2, none⟩ = some (.int .u32 s')) := fun w' hw => ⟨hw, (HK.out w' hw).1⟩
  go_wp2_with fail
  have hS1 : Hid ((fun w' => Below w1.heap.size w1 w' ∧ w'.cell? ⟨w.heap.size, 0, none⟩ = some (.int .i64 a) ∧ w'.cell? ⟨w.heap.size, 1, none⟩ = some (.int .u64 b) ∧ w'.cell? ⟨w.heap.size, 2, none⟩ = some (.int .u32 s) ∧ w'.cell? ⟨w.heap.size + 1, 0, none⟩ = some (.int .i64 a') ∧ w'.cell? ⟨w.heap.size + 1, 1, none⟩ = some (.int .u64 b') ∧ w'.cell? ⟨w.heap.size + 1, 2, none⟩ = some (.int .u32 s')) w1.drew) := HK2.out _ (Below.refl _ _).drew
  refine wp_region_held_drew (S := (fun w' => Below w1.heap.size w1 w' ∧ w'.cell? ⟨w.heap.size, 0, none⟩ = some (.int .i64 a) ∧ w'.cell? ⟨w.heap.size, 1, none⟩ = some (.int .u64 b) ∧ w'.cell? ⟨w.heap.size, 2, none⟩ = some (.int .u32 s) ∧ w'.cell? ⟨w.heap.size + 1, 0, none⟩ = some (.int .i64 a') ∧ w'.cell? ⟨w.heap.size + 1, 1, none⟩ = some (.int .u64 b') ∧ w'.cell? ⟨w.heap.size + 1, 2, none⟩ = some (.int .u32 s'))) (by kernel_rfl) hS1.out (fun hHeld => ?_)
  clear hS1
  refine wpAnyH_take (i := 0) (v := (ptv a b s)) rfl (by kernel_rfl) (by kernel_rfl) (by kernel_rfl) (fun _ _ _ h => h) (Or.inl ⟨by rfl, ?_⟩) (by assumption) ?_
  · intro w hS
    obtain ⟨-, c0, c1, c2, c3, c4, c5⟩ := hS
    go_simp
    try with_reducible rfl
  simp [Act.put]
  refine wpAnyH_take (i := 1) (v := (ptv a' b' s')) rfl (by kernel_rfl) (by kernel_rfl) (by kernel_rfl) (fun _ _ _ h => h) (Or.inl ⟨by rfl, ?_⟩) (by assumption) ?_
  · intro w hS
    obtain ⟨-, c0, c1, c2, c3, c4, c5⟩ := hS
    go_simp
    try with_reducible rfl
  simp [Act.put]
  refine wpAnyH_ready (rs := [2]) (by kernel_rfl) (by simp) ?_
  refine AllReadyH.cons rfl (fun K hK => ?_) AllReadyH.nil
  go_simp
  refine (HPQ.out _).mono ?_
  rintro e wX ⟨rfl, hX⟩
  refine hK.out _ _ (HK2.out _ (Below.trans hHeld.1 (hX.mono hHeld.1.size))) (fun hHeld2 => ?_)
  clear hK K
  try simp
  clear hHeld hX
  have hHeld := hHeld2
  clear hHeld2
  refine wpAnyH_take (i := 3) (v := (.bool false)) rfl (by kernel_rfl) (by kernel_rfl) (by kernel_rfl) (fun _ _ _ h => h) (Or.inl ⟨by rfl, ?_⟩) (by assumption) ?_
  · intro w hS
    obtain ⟨-, c0, c1, c2, c3, c4, c5⟩ := hS
    go_simp
    try with_reducible rfl
  simp [Act.put]
  refine wpAnyH_take (i := 4) (v := undef) rfl (by kernel_rfl) (by kernel_rfl) (by kernel_rfl) (fun _ _ _ h => h) (Or.inr ⟨by rfl, rfl⟩) (by assumption) ?_
  simp [Act.put]
  refine wpAnyH_take (i := 5) (v := undef) rfl (by kernel_rfl) (by kernel_rfl) (by kernel_rfl) (fun _ _ _ h => h) (Or.inr ⟨by rfl, rfl⟩) (by assumption) ?_
  simp [Act.put]
  refine wpAnyH_take (i := 6) (v := undef) rfl (by kernel_rfl) (by kernel_rfl) (by kernel_rfl) (fun _ _ _ h => h) (Or.inr ⟨by rfl, rfl⟩) (by assumption) ?_
  simp [Act.put]
  refine wpAnyH_take (i := 7) (v := (.bool false)) rfl (by kernel_rfl) (by kernel_rfl) (by kernel_rfl) (fun _ _ _ h => h) (Or.inl ⟨by rfl, ?_⟩) (by assumption) ?_
  · intro w hS
    obtain ⟨-, c0, c1, c2, c3, c4, c5⟩ := hS
    go_simp
    try with_reducible rfl
  simp [Act.put]
  refine wpAnyH_take (i := 8) (v := (.bool false)) rfl (by kernel_rfl) (by kernel_rfl) (by kernel_rfl) (fun _ _ _ h => h) (Or.inl ⟨by rfl, ?_⟩) (by assumption) ?_
  · intro w hS
    obtain ⟨-, c0, c1, c2, c3, c4, c5⟩ := hS
    go_simp
    try with_reducible rfl
  simp [Act.put]
  refine wpAnyH_take (i := 9) (v := (ptv a b s)) rfl (by kernel_rfl) (by kernel_rfl) (by kernel_rfl) (fun _ _ _ h => h) (Or.inl ⟨by rfl, ?_⟩) (by assumption) ?_
  · intro w hS
    obtain ⟨-, c0, c1, c2, c3, c4, c5⟩ := hS
    go_simp
    try with_reducible rfl
  simp [Act.put]
  refine wpAnyH_take (i := 10) (v := (ptv a' b' s')) rfl (by kernel_rfl) (by kernel_rfl) (by kernel_rfl) (fun _ _ _ h => h) (Or.inl ⟨by rfl, ?_⟩) (by assumption) ?_
  · intro w hS
    obtain ⟨-, c0, c1, c2, c3, c4, c5⟩ := hS
    go_simp
    try with_reducible rfl
  simp [Act.put]
  refine wpAnyH_take (i := 19) (v := (ptv a b s)) rfl (by kernel_rfl) (by kernel_rfl) (by kernel_rfl) (fun _ _ _ h => h) (Or.inl ⟨by rfl, ?_⟩) (by assumption) ?_
  · intro w hS
    obtain ⟨-, c0, c1, c2, c3, c4, c5⟩ := hS
    go_simp
    try with_reducible rfl
  simp [Act.put]
  refine wpAnyH_take (i := 20) (v := (ptv a' b' s')) rfl (by kernel_rfl) (by kernel_rfl) (by kernel_rfl) (fun _ _ _ h => h) (Or.inl ⟨by rfl, ?_⟩) (by assumption) ?_
  · intro w hS
    obtain ⟨-, c0, c1, c2, c3, c4, c5⟩ := hS
    go_simp
    try with_reducible rfl
  simp [Act.put]
  refine wpAnyH_take (i := 21) (v := (.bool true)) rfl (by kernel_rfl) (by kernel_rfl) (by kernel_rfl) (fun _ _ _ h => h) (Or.inl ⟨by rfl, ?_⟩) (by assumption) ?_
  · intro w hS
    obtain ⟨-, c0, c1, c2, c3, c4, c5⟩ := hS
    go_simp
    try with_reducible rfl
  simp [Act.put]
  refine wpAnyH_ready (rs := [11]) (by kernel_rfl) (by simp) ?_
  refine AllReadyH.cons rfl (fun K hK => ?_) AllReadyH.nil
  go_simp
  refine (HPQ.out _).mono ?_
  rintro e wX ⟨rfl, hX⟩
  refine hK.out _ _ (HK2.out _ (Below.trans hHeld.1 (hX.mono hHeld.1.size))) (fun hHeld2 => ?_)
  clear hK K
  try simp
  clear hHeld hX
  have hHeld := hHeld2
  clear hHeld2
  refine wpAnyH_take (i := 12) (v := (.bool true)) rfl (by kernel_rfl) (by kernel_rfl) (by kernel_rfl) (fun _ _ _ h => h) (Or.inl ⟨by rfl, ?_⟩) (by assumption) ?_
  · intro w hS
    obtain ⟨-, c0, c1, c2, c3, c4, c5⟩ := hS
    go_simp
    try with_reducible rfl
  simp [Act.put]
  refine wpAnyH_take (i := 13) (v := (.bool true)) rfl (by kernel_rfl) (by kernel_rfl) (by kernel_rfl) (fun _ _ _ h => h) (Or.inl ⟨by rfl, ?_⟩) (by assumption) ?_
  · intro w hS
    obtain ⟨-, c0, c1, c2, c3, c4, c5⟩ := hS
    go_simp
    try with_reducible rfl
  simp [Act.put]
  refine wpAnyH_take (i := 14) (v := (ptv a' b' s')) rfl (by kernel_rfl) (by kernel_rfl) (by kernel_rfl) (fun _ _ _ h => h) (Or.inl ⟨by rfl, ?_⟩) (by assumption) ?_
  · intro w hS
    obtain ⟨-, c0, c1, c2, c3, c4, c5⟩ := hS
    go_simp
    try with_reducible rfl
  simp [Act.put]
  refine wpAnyH_take (i := 15) (v := (ptv a b s)) rfl (by kernel_rfl) (by kernel_rfl) (by kernel_rfl) (fun _ _ _ h => h) (Or.inl ⟨by rfl, ?_⟩) (by assumption) ?_
  · intro w hS
    obtain ⟨-, c0, c1, c2, c3, c4, c5⟩ := hS
    go_simp
    try with_reducible rfl
  simp [Act.put]
  refine wpAnyH_ready (rs := [16]) (by kernel_rfl) (by simp) ?_
  refine AllReadyH.cons rfl (fun K hK => ?_) AllReadyH.nil
  go_simp
  refine (HQP.out _).mono ?_
  rintro e wX ⟨rfl, hX⟩
  refine hK.out _ _ (HK2.out _ (Below.trans hHeld.1 (hX.mono hHeld.1.size))) (fun hHeld2 => ?_)
  clear hK K
  try simp
  clear hHeld hX
  have hHeld := hHeld2
  clear hHeld2
  refine wpAnyH_take (i := 17) (v := (.bool true)) rfl (by kernel_rfl) (by kernel_rfl) (by kernel_rfl) (fun _ _ _ h => h) (Or.inl ⟨by rfl, ?_⟩) (by assumption) ?_
  · intro w hS
    obtain ⟨-, c0, c1, c2, c3, c4, c5⟩ := hS
    go_simp
    try with_reducible rfl
  simp [Act.put]
  refine wpAnyH_take (i := 18) (v := (.bool true)) rfl (by kernel_rfl) (by kernel_rfl) (by kernel_rfl) (fun _ _ _ h => h) (Or.inl ⟨by rfl, ?_⟩) (by assumption) ?_
  · intro w hS
    obtain ⟨-, c0, c1, c2, c3, c4, c5⟩ := hS
    go_simp
    try with_reducible rfl
  simp [Act.put]
  refine wpAnyH_take (i := 22) (v := (.bool false)) rfl (by kernel_rfl) (by kernel_rfl) (by kernel_rfl) (fun _ _ _ h => h) (Or.inl ⟨by rfl, ?_⟩) (by assumption) ?_
  · intro w hS
    obtain ⟨-, c0, c1, c2, c3, c4, c5⟩ := hS
    go_simp
    try with_reducible rfl
  simp [Act.put]
  refine wpAnyH_take (i := 23) (v := (.bool false)) rfl (by kernel_rfl) (by kernel_rfl) (by kernel_rfl) (fun _ _ _ h => h) (Or.inl ⟨by rfl, ?_⟩) (by assumption) ?_
  · intro w hS
    obtain ⟨-, c0, c1, c2, c3, c4, c5⟩ := hS
    go_simp
    try with_reducible rfl
  simp [Act.put]
  refine wpAnyH_done (by kernel_rfl) ?_ _
  all_goals
    obtain ⟨hE, -⟩ := hHeld
    obtain ⟨⟨c0, c1, c2, c3, c4, c5⟩, c6, c7, c8⟩ := HK.out _ hE
    go_wp2_with (first
    | (go_at_call 12; with_reducible refine Calls.mono (HPQ.out _) ?_; rintro e wX ⟨rfl, hX⟩; have hE := Below.trans hE (Below.mono hX hE.size); obtain ⟨⟨c0, c1, c2, c3, c4, c5⟩, c6, c7, c8⟩ := HK.out _ hE; clear hX)
    | (go_at_call 12; with_reducible refine Calls.mono (HQP.out _) ?_; rintro e wX ⟨rfl, hX⟩; have hE := Below.trans hE (Below.mono hX hE.size); obtain ⟨⟨c0, c1, c2, c3, c4, c5⟩, c6, c7, c8⟩ := HK.out _ hE; clear hX)
    | (go_at_call 14; with_reducible refine Calls.mono (HS.out _) ?_; rintro e wX ⟨rfl, hX⟩; have hE := Below.trans hE (Below.mono hX hE.size); obtain ⟨⟨c0, c1, c2, c3, c4, c5⟩, c6, c7, c8⟩ := HK.out _ hE; clear hX))
    go_ret
    exact ⟨rfl, HB1.out.trans (hE.mono HB1.out.size)⟩

theorem ptrOrder_any : Calls Try.prog 7 #[ptv a b s, ptv a' b' s', ptv i j k] w fun e w' => e = .returned (.bool true) ∧ Below w.heap.size w w' := by
  rcases hx : lessF a b s a' b' s' with _ | _
  · rcases hy : lessF a' b' s' a b s with _ | _
    · have he := less_none hx hy
      rcases hs : sinceF a b s j with _ | _
      · exact ptrOrder_CF w hx hy he hs
      · exact ptrOrder_CT w hx hy he hs (since_less hs)
    · have he : (a == a' && b == b' && s == s') = false := by
        have := (less_back hy).2
        rw [← this]
        congr 1
        · congr 1
          · exact Bool.beq_comm ..
          · exact Bool.beq_comm ..
        · exact Bool.beq_comm ..
      rcases hs : sinceF a b s j with _ | _
      · exact ptrOrder_BF w hx hy he hs
      · exact ptrOrder_BT w hx hy he hs (since_less hs)
  · obtain ⟨hy, he⟩ := less_back hx
    rcases hz : lessF a' b' s' i j k with _ | _
    · rcases hs : sinceF a b s j with _ | _
      · exact ptrOrder_A2F w hx hy he hz hs
      · exact ptrOrder_A2T w hx hy he hz hs (since_less hs)
    · have hu := less_trans hx hz
      rcases hs : sinceF a b s j with _ | _
      · exact ptrOrder_A1F w hx hy he hz hu hs
      · exact ptrOrder_A1T w hx hy he hz hu hs (since_less hs)

end
end Go.Proofs.Ytolinaijldmpnaa
