/- The library's sort at ubers, at twelve or fewer: laid off the shelf; the closure that compares; what the row then holds: plain mathematics. -/
import Derived.Test.YtegcknloemgndaaU1
import Derived.Test.YtegcknloemgndaaQ2
import Derived.Shelf.SlSortCmp.SmallK
import Derived.Shelf.SlSortCmp.NoneTotal
import Derived.Shelf.Small.Bits
import Derived.Shelf.Lay
import Derived.Ground.SlsfProg
import Derived.Ground.NamesProg
set_option maxRecDepth 10000
namespace Go.Proofs
open Go.Shelf Go.RowKit Go.Lib Go.Sort
shelf_lay_g SlLaysF0.n6 Slsf 6 at Try 54 as Ytegcknloemgndaa.sortU
shelf_lay Lays.n125 Nm 125 at Try as Ytegcknloemgndaa.bitsLen
end Go.Proofs
namespace Go.Proofs.Ytegcknloemgndaa
open Go.Shelf Go.RowKit Go.Lib Go.Sort

theorem hlenU (n : Nat) (W : World) (h : n ≤ 12) : Calls Try.prog 71 #[.int .u64 n] W fun e w' => (∃ l : Int, e = .returned (.int .i64 l)) ∧ w' = W :=
  (Any.bits_Len bitsLen n W (by omega) (by omega)).mono fun _ _ ⟨he, hw⟩ => ⟨⟨_, he⟩, hw⟩
theorem closureU (x y : Ub) (W : World) : Calls Try.prog 55 #[.agg x.cs.toArray, .agg y.cs.toArray] W fun e w' => e = .returned (.int .i64 (cmpF (x.txg : Int) (y.txg : Int))) ∧ ∃ q os', w' = grow (W.drewN q) os' := by
  have H := Lib.hid (cmp_u64 (x.txg : Int) (y.txg : Int))
  have hx := (ub_new W x).ubF.1
  have h2 : ((W.alloc (.cells x.cs.toArray 27)).alloc (.cells y.cs.toArray 27)).cell? ⟨W.heap.size, 0, none⟩ = some (.int .u64 (x.txg : Int)) :=
    (((Below.refl (W.alloc (.cells x.cs.toArray 27)).heap.size _).alloc (Nat.le_refl _) _).cell (p := ⟨W.heap.size, 0, none⟩) (by simp)).trans hx
  have h3 : ((W.alloc (.cells x.cs.toArray 27)).alloc (.cells y.cs.toArray 27)).cell? ⟨W.heap.size + 1, 0, none⟩ = some (.int .u64 (y.txg : Int)) := by
    have := (ub_new (W.alloc (.cells x.cs.toArray 27)) y).ubF.1
    rwa [show (W.alloc (.cells x.cs.toArray 27)).heap.size = W.heap.size + 1 by simp] at this
  clear hx
  go_enter Try.func55, Try.ntmps55
  go_wp2_with (go_at_call 56; refine (H.out _).mono ?_; rintro e w' ⟨rfl, rfl⟩)
  go_ret
  exact ⟨rfl, 0, _, by rw [alloc_eq_grow, alloc_eq_grow, grow_grow]; rfl⟩
end Go.Proofs.Ytegcknloemgndaa
