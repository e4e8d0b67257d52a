
/- Walks: which of two stands ahead. -/
import Derived.Test.YtgbghmgipnphkaaQ1
import Derived.StillTailTactics
set_option maxRecDepth 10000
namespace Go.Proofs.Ytgbghmgipnphkaa
open Go.RowKit

def cmpF (x y : Int) : Int := if x < y then -1 else if y < x then 1 else 0
def orF : List Int → Int
  | [] => 0
  | x :: r => if x = 0 then orF r else x

theorem less_or (a b s a' b' s' : Int) : decide (orF [cmpF b b', cmpF a a', cmpF s s'] < 0) = lessF a b s a' b' s' := by
  have h1 : ∀ x y : Int, cmpF x y = 0 ↔ x = y := fun x y => by unfold cmpF; split <;> (try split) <;> omega
  have h2 : ∀ x y : Int, cmpF x y < 0 ↔ x < y := fun x y => by unfold cmpF; split <;> (try split) <;> omega
  have h3 : ∀ x : Int, cmpF x x = 0 := fun x => (h1 x x).2 rfl
  by_cases e1 : b = b'
  · subst e1
    by_cases e2 : a = a'
    · subst e2
      by_cases e3 : s = s'
      · subst e3
        simp [orF, lessF, h3]
      · simp [orF, lessF, h3, h1, e3, h2]
    · simp [orF, lessF, h3, h1, e2, h2]
  · simp [orF, lessF, h1, e1, h2]
/-- Two pointers in blocks of their own. -/
theorem ptr_here2 {w w1 : World} {a b s a' b' s' : Int} (h : Below ((w.alloc (pto a b s)).alloc (pto a' b' s')).heap.size ((w.alloc (pto a b s)).alloc (pto a' b' s')) w1) :
    (w1.cell? ⟨w.heap.size, 0, none⟩ = some (.int .i64 a) ∧ w1.cell? ⟨w.heap.size, 1, none⟩ = some (.int .u64 b) ∧ w1.cell? ⟨w.heap.size, 2, none⟩ = some (.int .u32 s)) ∧
    w1.cell? ⟨w.heap.size + 1, 0, none⟩ = some (.int .i64 a') ∧ w1.cell? ⟨w.heap.size + 1, 1, none⟩ = some (.int .u64 b') ∧ w1.cell? ⟨w.heap.size + 1, 2, none⟩ = some (.int .u32 s') := by
  refine ⟨ptr_here ((((Below.refl _ _).alloc (Nat.le_refl _) _)).trans (h.mono (by simp))), ?_⟩
  have := ptr_here (w := w.alloc (pto a b s)) h
  simpa using this
end Go.Proofs.Ytgbghmgipnphkaa
