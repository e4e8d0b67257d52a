/- Walks: the law on what pointers tell. -/
import Derived.Test.YtolinaijldmpnaaQ9
namespace Go.Proofs.Ytolinaijldmpnaa
open Go.RowKit

/-- Two pointers lie in blocks of their own. -/
abbrev Two (w' : World) (g : Nat) (a b s a' b' s' : Int) : Prop :=
  w'.cell? ⟨g, 0, none⟩ = some (.int .i64 a) ∧ w'.cell? ⟨g, 1, none⟩ = some (.int .u64 b) ∧ w'.cell? ⟨g, 2, none⟩ = some (.int .u32 s) ∧
  w'.cell? ⟨g + 1, 0, none⟩ = some (.int .i64 a') ∧ w'.cell? ⟨g + 1, 1, none⟩ = some (.int .u64 b') ∧ w'.cell? ⟨g + 1, 2, none⟩ = some (.int .u32 s')
theorem two_at {w w1 : World} {a b s a' b' s' : Int} (h : Below ((w.alloc (pto a b s)).alloc (pto a' b' s')).heap.size ((w.alloc (pto a b s)).alloc (pto a' b' s')) w1) : Two w1 w.heap.size a b s a' b' s' := by
  obtain ⟨⟨h1, h2, h3⟩, h4, h5, h6⟩ := ptr_here2 h
  exact ⟨h1, h2, h3, h4, h5, h6⟩
set_option maxHeartbeats 1000000 in
theorem ptrTells_any (w : World) (a b s a' b' s' t : Int) (h : IsPtr a b s) :
    Calls Try.prog 4 #[ptv a b s, ptv a' b' s', .int .u64 t] w fun e w' => e = .returned (.bool true) ∧ Below w.heap.size w w' := by
  have HA := Lib.hid alive_any
  have HR := Lib.hid (right_any a b s)
  have HQ := Lib.hid (rright_any a b s h.b0)
  have HL := Lib.hid (less_any a b s a' b' s')
  have HM := Lib.hid (rless_any a b s a' b' s')
  have HS := Lib.hid (since_any a b s t)
  have HT := Lib.hid (rsince_any a b s t)
  clear h
  go_enter Try.func4, Try.ntmps4
  go_wp2_with fail
  have HK := Lib.hid (fun w1 => two_at (w := w) (w1 := w1) (a := a) (b := b) (s := s) (a' := a') (b' := b') (s' := s'))
  have hb0 : Below w.heap.size w ((w.alloc (pto a b s)).alloc (pto a' b' s')) := below_two' w _ _
  generalize (w.alloc (pto a b s)).alloc (pto a' b' s') = w0 at *
  have HK2 : Hid (∀ w', Below w0.heap.size w0 w' → Below w0.heap.size w0 w' ∧ w'.cell? ⟨w.heap.size, 0, none⟩ = some (.int .i64 a) ∧ w'.cell? ⟨w.heap.size, 1, none⟩ = some (.int .u64 b) ∧ w'.cell? ⟨w.heap.size, 2, none⟩ = some (.int .u32 s) ∧
      w'.cell? ⟨w.heap.size + 1, 0, none⟩ = some (.int .i64 a') ∧ w'.cell? ⟨w.heap.size + 1, 1, none⟩ = some (.int .u64 b') ∧ w'.cell? ⟨w.heap.size + 1, 2, none⟩ = some (.int .u32 s')) := fun w' hw => ⟨hw, HK.out w' hw⟩
  go_region_held3 (fun w' => Below w0.heap.size w0 w' ∧ w'.cell? ⟨w.heap.size, 0, none⟩ = some (.int .i64 a) ∧ w'.cell? ⟨w.heap.size, 1, none⟩ = some (.int .u64 b) ∧ w'.cell? ⟨w.heap.size, 2, none⟩ = some (.int .u32 s) ∧
      w'.cell? ⟨w.heap.size + 1, 0, none⟩ = some (.int .i64 a') ∧ w'.cell? ⟨w.heap.size + 1, 1, none⟩ = some (.int .u64 b') ∧ w'.cell? ⟨w.heap.size + 1, 2, none⟩ = some (.int .u32 s'))
    (first
      | assumption
      | exact HK2.out _ (Below.refl _ _)
      | exact HK2.out _ (Below.refl _ _).drew
      | (go_split_ands; exact HK2.out _ (Below.trans (by assumption) (hX.mono (Below.size (by assumption)))))
      | (go_split_ands; exact HK2.out _ (Below.drew (by assumption))))
    (first
      | (go_at_call 9; refine (HA.out _).mono ?_; rintro e wX ⟨rfl, hX⟩)
      | (go_at_call 10; refine (HR.out _).mono ?_; rintro e wX ⟨rfl, hX⟩)
      | (go_at_call 11; refine (HQ.out _).mono ?_; rintro e wX ⟨rfl, hX⟩)
      | (go_at_call 12; refine (HL.out _).mono ?_; rintro e wX ⟨rfl, hX⟩)
      | (go_at_call 13; refine (HM.out _).mono ?_; rintro e wX ⟨rfl, hX⟩)
      | (go_at_call 14; refine (HS.out _).mono ?_; rintro e wX ⟨rfl, hX⟩)
      | (go_at_call 15; refine (HT.out _).mono ?_; rintro e wX ⟨rfl, hX⟩))
  all_goals
    go_split_ands
    go_wp2_with fail
    go_ret
    exact ⟨rfl, hb0.trans (Below.mono (by assumption) hb0.size)⟩
end Go.Proofs.Ytolinaijldmpnaa
