/- NodeBytes over the calls' contracts. -/
import Derived.Test.YtgbghmgipnphkaaH7
set_option maxRecDepth 10000
namespace Go.Proofs.Ytgbghmgipnphkaa
open Go.RowKit

set_option maxHeartbeats 2000000 in
theorem nodeBytes_any (L : NodeCalls) (p : P8) (hp : p.ok) (w : World) : Calls Try.prog 4 #[.agg p.cs.toArray] w fun e w' => e = .returned (.bool true) ∧ Below w.heap.size w w' := by
  have HR := Lib.hid (L.bytes p hp)
  have HN := Lib.hid (rnbytes_any p hp)
  have HA := Lib.hid (nodeAlive_any L)
  have HE := Lib.hid (L.empty p)
  have HE2 := Lib.hid (rempty_any p)
  have HW := Lib.hid (L.newest p hp)
  have HW2 := Lib.hid (rnewest_any p hp)
  have hsame : Hid ((nbS p).same (nbS p) = true) := (nbS p).same_self
  generalize nbS p = s at *
  generalize nbC p = c at *
  generalize emptyF p = b at *
  generalize newestF p = n at *
  have hz : ∀ w, Sem.run Try.prog (zeroValue 23) w = .ok (.agg zsec.cs.toArray) w := zeroSec
  go_enter Try.func4, Try.ntmps4
  have h0 : Hid (Blk (w.alloc (.cells p.cs.toArray 31)) w.heap.size 31 p.cs.toArray ∧ Below w.heap.size w (w.alloc (.cells p.cs.toArray 31))) := ⟨Blk.new _ _ _, (Below.refl _ _).alloc (Nat.le_refl _) _⟩
  go_wp2_with (with_reducible refine ld_p8 rfl _ rfl w.heap.size 0 p rfl h0.out.1.p8Is ?_)
  refine Calls.mono (HR.out _) ?_
  rintro e w1 ⟨rfl, hb1⟩
  have H1 := Lib.hid (And.intro (h0.out.1.below hb1 h0.out.1.lt) (h0.out.2.trans (hb1.mono h0.out.2.size)))
  clear h0 hb1 HR
  have hn1 : Hid (Blk (w1.alloc (.cells zsec.cs.toArray 23)) w1.heap.size 23 zsec.cs.toArray) := Blk.new _ _ _
  have hs1 := H1.out.1.lt
  go_wp2_with (first
    | ((with_reducible refine ld_p8 rfl _ rfl w.heap.size 0 p rfl H2.out.1.p8Is ?_))
    | ((with_reducible refine st_sec rfl _ _ rfl w1.heap.size 0 s rfl rfl hn1.out.secHas ?_)
       intro w2 hw2
       have H2 : Hid (Blk w2 w.heap.size 31 p.cs.toArray ∧ Blk w2 w1.heap.size 23 s.cs.toArray ∧ Below w.heap.size w w2) := by
         have hb := (Below.refl w1.heap.size w1).alloc (Nat.le_refl _) (.cells zsec.cs.toArray 23)
         have hb' : Below w1.heap.size w1 ((w1.alloc (.cells zsec.cs.toArray 23)).setCells w1.heap.size 0 s.cs) := Below.setCells _ (Nat.le_refl _) _ _ hb
         rw [hw2.out]
         exact ⟨H1.out.1.below hb' hs1, hn1.out.secAll _, H1.out.2.trans (hb'.mono H1.out.2.size)⟩
       clear hw2))
  refine Calls.mono (HN.out w2) ?_
  rintro e w3 ⟨rfl, hb3⟩
  have H3 := Lib.hid (And.intro (H2.out.1.below hb3 H2.out.1.lt) (And.intro (H2.out.2.1.below hb3 H2.out.2.1.lt) (H2.out.2.2.trans (hb3.mono H2.out.2.2.size))))
  clear H2 hb3 HN H1 hn1
  generalize w1.heap.size = g1 at *
  have hn3 : Hid (Blk (w3.alloc (.cells zsec.cs.toArray 23)) w3.heap.size 23 zsec.cs.toArray) := Blk.new _ _ _
  have hs3 := H3.out.2.1.lt
  have hs4 := H3.out.1.lt
  go_wp2_with ((with_reducible refine st_sec rfl _ _ rfl w3.heap.size 0 s rfl rfl hn3.out.secHas ?_)
               intro w4 hw4
               have H4 : Hid (Blk w4 w.heap.size 31 p.cs.toArray ∧ Blk w4 g1 23 s.cs.toArray ∧ Blk w4 w3.heap.size 23 s.cs.toArray ∧ Below w.heap.size w w4) := by
                 have hb := (Below.refl w3.heap.size w3).alloc (Nat.le_refl _) (.cells zsec.cs.toArray 23)
                 have hb' : Below w3.heap.size w3 ((w3.alloc (.cells zsec.cs.toArray 23)).setCells w3.heap.size 0 s.cs) := Below.setCells _ (Nat.le_refl _) _ _ hb
                 rw [hw4.out]
                 exact ⟨H3.out.1.below hb' hs4, H3.out.2.1.below hb' hs3, hn3.out.secAll _, H3.out.2.2.trans (hb'.mono H3.out.2.2.size)⟩
               clear hw4)
  have hS1 : Hid ((fun w' => Blk w' w.heap.size 31 p.cs.toArray ∧ Blk w' g1 23 s.cs.toArray ∧ Blk w' w3.heap.size 23 s.cs.toArray ∧ Below w.heap.size w w') w4.drew) := by
    have hd := (Below.refl w4.heap.size w4).drew
    exact ⟨H4.out.1.below hd H4.out.1.lt, H4.out.2.1.below hd H4.out.2.1.lt, H4.out.2.2.1.below hd H4.out.2.2.1.lt, H4.out.2.2.2.drew⟩
  refine wp_region_held_drew (S := (fun w' => Blk w' w.heap.size 31 p.cs.toArray ∧ Blk w' g1 23 s.cs.toArray ∧ Blk w' w3.heap.size 23 s.cs.toArray ∧ Below w.heap.size w w')) (by kernel_rfl) hS1.out (fun hHeld => ?_)
  generalize w4.drew = w5 at *
  clear H4 H3 hn3
  refine wpAnyH_ready (rs := [0]) (by kernel_rfl) (by simp) ?_
  refine AllReadyH.cons rfl (fun K hK => ?_) AllReadyH.nil
  go_simp
  refine Calls.mono (HA.out _) ?_
  rintro e wX ⟨rfl, hbX⟩
  have hS2 : Hid ((fun w' => Blk w' w.heap.size 31 p.cs.toArray ∧ Blk w' g1 23 s.cs.toArray ∧ Blk w' w3.heap.size 23 s.cs.toArray ∧ Below w.heap.size w w') wX) := ⟨hS1.out.1.below hbX hS1.out.1.lt, hS1.out.2.1.below hbX hS1.out.2.1.lt, hS1.out.2.2.1.below hbX hS1.out.2.2.1.lt, hS1.out.2.2.2.trans (hbX.mono hS1.out.2.2.2.size)⟩
  clear hS1 hbX
  have hS1 := hS2
  clear hS2
  refine hK.out _ _ hS1.out (fun hHeld2 => ?_)
  clear hK K
  try simp
  clear hHeld
  have hHeld := hHeld2
  clear hHeld2
  refine wpAnyH_take (i := 1) (v := (.bool true)) rfl (by kernel_rfl) (by kernel_rfl) (by kernel_rfl) (fun _ _ _ h => h) (Or.inl ⟨by rfl, ?_⟩) (by assumption) ?_
  · intro w' hS; go_simp; try with_reducible rfl
  try simp [Act.put]
  refine wpAnyH_take (i := 2) (v := (.agg s.cs.toArray)) rfl (by kernel_rfl) (by kernel_rfl) (by kernel_rfl) (fun _ _ _ h => h) (Or.inl ⟨by rfl, ?_⟩) (by assumption) ?_
  · intro w' hS
    exact ex_ldSec (.tmp 3) rfl g1 s rfl hS.2.1
  try simp [Act.put]
  refine wpAnyH_take (i := 3) (v := (.agg s.cs.toArray)) rfl (by kernel_rfl) (by kernel_rfl) (by kernel_rfl) (fun _ _ _ h => h) (Or.inl ⟨by rfl, ?_⟩) (by assumption) ?_
  · intro w' hS
    exact ex_ldSec (.tmp 5) rfl w3.heap.size s rfl hS.2.2.1
  try simp [Act.put]
  refine wpAnyH_take (i := 4) (v := (.bool true)) rfl (by kernel_rfl) (by kernel_rfl) (by kernel_rfl) (fun _ _ _ h => h) (Or.inl ⟨by rfl, ?_⟩) (by assumption) ?_
  · intro w' hS
    refine (ex_eqS (.tmp 19) (.tmp 20) rfl s s rfl rfl).trans ?_
    rw [hsame.out]
  try simp [Act.put]
  refine wpAnyH_take (i := 5) (v := (.bool true)) rfl (by kernel_rfl) (by kernel_rfl) (by kernel_rfl) (fun _ _ _ h => h) (Or.inl ⟨by rfl, ?_⟩) (by assumption) ?_
  · intro w' hS; go_simp; try with_reducible rfl
  try simp [Act.put]
  refine wpAnyH_take (i := 6) (v := (.bool true)) rfl (by kernel_rfl) (by kernel_rfl) (by kernel_rfl) (fun _ _ _ h => h) (Or.inl ⟨by rfl, ?_⟩) (by assumption) ?_
  · intro w' hS; go_simp; try with_reducible rfl
  try simp [Act.put]
  refine wpAnyH_take (i := 7) (v := (.int .i64 c)) rfl (by kernel_rfl) (by kernel_rfl) (by kernel_rfl) (fun _ _ _ h => h) (Or.inl ⟨by rfl, ?_⟩) (by assumption) ?_
  · intro w' hS; go_simp; try with_reducible rfl
  try simp [Act.put]
  refine wpAnyH_take (i := 8) (v := (.int .i64 c)) rfl (by kernel_rfl) (by kernel_rfl) (by kernel_rfl) (fun _ _ _ h => h) (Or.inl ⟨by rfl, ?_⟩) (by assumption) ?_
  · intro w' hS; go_simp; try with_reducible rfl
  try simp [Act.put]
  refine wpAnyH_take (i := 9) (v := (.bool true)) rfl (by kernel_rfl) (by kernel_rfl) (by kernel_rfl) (fun _ _ _ h => h) (Or.inl ⟨by rfl, ?_⟩) (by assumption) ?_
  · intro w' hS; go_simp; try with_reducible rfl
  try simp [Act.put]
  refine wpAnyH_take (i := 10) (v := (.bool true)) rfl (by kernel_rfl) (by kernel_rfl) (by kernel_rfl) (fun _ _ _ h => h) (Or.inl ⟨by rfl, ?_⟩) (by assumption) ?_
  · intro w' hS; go_simp; try with_reducible rfl
  try simp [Act.put]
  refine wpAnyH_take (i := 11) (v := (.bool true)) rfl (by kernel_rfl) (by kernel_rfl) (by kernel_rfl) (fun _ _ _ h => h) (Or.inl ⟨by rfl, ?_⟩) (by assumption) ?_
  · intro w' hS; go_simp; try with_reducible rfl
  try simp [Act.put]
  refine wpAnyH_take (i := 12) (v := (.agg p.cs.toArray)) rfl (by kernel_rfl) (by kernel_rfl) (by kernel_rfl) (fun _ _ _ h => h) (Or.inl ⟨by rfl, ?_⟩) (by assumption) ?_
  · intro w' hS
    exact ex_ldP8 (.tmp 1) rfl w.heap.size p rfl hS.1
  try simp [Act.put]
  refine wpAnyH_take (i := 14) (v := (.agg p.cs.toArray)) rfl (by kernel_rfl) (by kernel_rfl) (by kernel_rfl) (fun _ _ _ h => h) (Or.inl ⟨by rfl, ?_⟩) (by assumption) ?_
  · intro w' hS
    exact ex_ldP8 (.tmp 1) rfl w.heap.size p rfl hS.1
  try simp [Act.put]
  refine wpAnyH_ready (rs := [13]) (by kernel_rfl) (by simp) ?_
  refine AllReadyH.cons rfl (fun K hK => ?_) AllReadyH.nil
  go_simp
  refine Calls.mono (HE.out _) ?_
  rintro e wX ⟨rfl, hbX⟩
  have hS2 : Hid ((fun w' => Blk w' w.heap.size 31 p.cs.toArray ∧ Blk w' g1 23 s.cs.toArray ∧ Blk w' w3.heap.size 23 s.cs.toArray ∧ Below w.heap.size w w') wX) := ⟨hS1.out.1.below hbX hS1.out.1.lt, hS1.out.2.1.below hbX hS1.out.2.1.lt, hS1.out.2.2.1.below hbX hS1.out.2.2.1.lt, hS1.out.2.2.2.trans (hbX.mono hS1.out.2.2.2.size)⟩
  clear hS1 hbX
  have hS1 := hS2
  clear hS2
  refine hK.out _ _ hS1.out (fun hHeld2 => ?_)
  clear hK K
  try simp
  clear hHeld
  have hHeld := hHeld2
  clear hHeld2
  refine wpAnyH_ready (rs := [15]) (by kernel_rfl) (by simp) ?_
  refine AllReadyH.cons rfl (fun K hK => ?_) AllReadyH.nil
  go_simp
  refine Calls.mono (HE2.out _) ?_
  rintro e wX ⟨rfl, hbX⟩
  have hS2 : Hid ((fun w' => Blk w' w.heap.size 31 p.cs.toArray ∧ Blk w' g1 23 s.cs.toArray ∧ Blk w' w3.heap.size 23 s.cs.toArray ∧ Below w.heap.size w w') wX) := ⟨hS1.out.1.below hbX hS1.out.1.lt, hS1.out.2.1.below hbX hS1.out.2.1.lt, hS1.out.2.2.1.below hbX hS1.out.2.2.1.lt, hS1.out.2.2.2.trans (hbX.mono hS1.out.2.2.2.size)⟩
  clear hS1 hbX
  have hS1 := hS2
  clear hS2
  refine hK.out _ _ hS1.out (fun hHeld2 => ?_)
  clear hK K
  try simp
  clear hHeld
  have hHeld := hHeld2
  clear hHeld2
  refine wpAnyH_take (i := 16) (v := (.bool true)) rfl (by kernel_rfl) (by kernel_rfl) (by kernel_rfl) (fun _ _ _ h => h) (Or.inl ⟨by rfl, ?_⟩) (by assumption) ?_
  · intro w' hS; go_simp; try with_reducible rfl
  try simp [Act.put]
  refine wpAnyH_take (i := 17) (v := (.bool true)) rfl (by kernel_rfl) (by kernel_rfl) (by kernel_rfl) (fun _ _ _ h => h) (Or.inl ⟨by rfl, ?_⟩) (by assumption) ?_
  · intro w' hS; go_simp; try with_reducible rfl
  try simp [Act.put]
  refine wpAnyH_take (i := 18) (v := (.bool true)) rfl (by kernel_rfl) (by kernel_rfl) (by kernel_rfl) (fun _ _ _ h => h) (Or.inl ⟨by rfl, ?_⟩) (by assumption) ?_
  · intro w' hS; go_simp; try with_reducible rfl
  try simp [Act.put]
  refine wpAnyH_take (i := 19) (v := (.agg p.cs.toArray)) rfl (by kernel_rfl) (by kernel_rfl) (by kernel_rfl) (fun _ _ _ h => h) (Or.inl ⟨by rfl, ?_⟩) (by assumption) ?_
  · intro w' hS
    exact ex_ldP8 (.tmp 1) rfl w.heap.size p rfl hS.1
  try simp [Act.put]
  refine wpAnyH_take (i := 21) (v := (.agg p.cs.toArray)) rfl (by kernel_rfl) (by kernel_rfl) (by kernel_rfl) (fun _ _ _ h => h) (Or.inl ⟨by rfl, ?_⟩) (by assumption) ?_
  · intro w' hS
    exact ex_ldP8 (.tmp 1) rfl w.heap.size p rfl hS.1
  try simp [Act.put]
  refine wpAnyH_ready (rs := [20]) (by kernel_rfl) (by simp) ?_
  refine AllReadyH.cons rfl (fun K hK => ?_) AllReadyH.nil
  go_simp
  refine Calls.mono (HW.out _) ?_
  rintro e wX ⟨rfl, hbX⟩
  have hS2 : Hid ((fun w' => Blk w' w.heap.size 31 p.cs.toArray ∧ Blk w' g1 23 s.cs.toArray ∧ Blk w' w3.heap.size 23 s.cs.toArray ∧ Below w.heap.size w w') wX) := ⟨hS1.out.1.below hbX hS1.out.1.lt, hS1.out.2.1.below hbX hS1.out.2.1.lt, hS1.out.2.2.1.below hbX hS1.out.2.2.1.lt, hS1.out.2.2.2.trans (hbX.mono hS1.out.2.2.2.size)⟩
  clear hS1 hbX
  have hS1 := hS2
  clear hS2
  refine hK.out _ _ hS1.out (fun hHeld2 => ?_)
  clear hK K
  try simp
  clear hHeld
  have hHeld := hHeld2
  clear hHeld2
  refine wpAnyH_ready (rs := [22]) (by kernel_rfl) (by simp) ?_
  refine AllReadyH.cons rfl (fun K hK => ?_) AllReadyH.nil
  go_simp
  refine Calls.mono (HW2.out _) ?_
  rintro e wX ⟨rfl, hbX⟩
  have hS2 : Hid ((fun w' => Blk w' w.heap.size 31 p.cs.toArray ∧ Blk w' g1 23 s.cs.toArray ∧ Blk w' w3.heap.size 23 s.cs.toArray ∧ Below w.heap.size w w') wX) := ⟨hS1.out.1.below hbX hS1.out.1.lt, hS1.out.2.1.below hbX hS1.out.2.1.lt, hS1.out.2.2.1.below hbX hS1.out.2.2.1.lt, hS1.out.2.2.2.trans (hbX.mono hS1.out.2.2.2.size)⟩
  clear hS1 hbX
  have hS1 := hS2
  clear hS2
  refine hK.out _ _ hS1.out (fun hHeld2 => ?_)
  clear hK K
  try simp
  clear hHeld
  have hHeld := hHeld2
  clear hHeld2
  refine wpAnyH_take (i := 23) (v := (.bool true)) rfl (by kernel_rfl) (by kernel_rfl) (by kernel_rfl) (fun _ _ _ h => h) (Or.inl ⟨by rfl, ?_⟩) (by assumption) ?_
  · intro w' hS; go_simp; try with_reducible rfl
  try simp [Act.put]
  refine wpAnyH_take (i := 24) (v := (.bool true)) rfl (by kernel_rfl) (by kernel_rfl) (by kernel_rfl) (fun _ _ _ h => h) (Or.inl ⟨by rfl, ?_⟩) (by assumption) ?_
  · intro w' hS; go_simp; try with_reducible rfl
  try simp [Act.put]
  refine wpAnyH_take (i := 25) (v := (.bool true)) rfl (by kernel_rfl) (by kernel_rfl) (by kernel_rfl) (fun _ _ _ h => h) (Or.inl ⟨by rfl, ?_⟩) (by assumption) ?_
  · intro w' hS; go_simp; try with_reducible rfl
  try simp [Act.put]
  refine wpAnyH_done (by kernel_rfl) ?_ _
  have HB8 := Lib.hid hS1.out.2.2.2
  clear hHeld hS1
  go_wp2_with fail
  go_ret
  exact ⟨rfl, HB8.out⟩
end Go.Proofs.Ytgbghmgipnphkaa
