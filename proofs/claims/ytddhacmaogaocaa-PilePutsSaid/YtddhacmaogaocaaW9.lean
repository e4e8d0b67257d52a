
/- Walks: Join, Cut, Both; the chapter's example. -/
import Derived.Test.YtddhacmaogaocaaW8
set_option maxRecDepth 10000
namespace Go.Proofs.Ytddhacmaogaocaa
open Go.RowKit

theorem own_slice {w : World} {base : Nat} {v : Value} {R : List Sp} (h : OwnR w base v R.reverse) : ∃ A c, v = .slice A R.length c ∧ Rd w w.heap.size A (spc R) ∧ R.length ≤ c := by
  obtain ⟨A, c, rfl, h1, h2⟩ := own_rd h
  rw [List.length_reverse] at h2 ⊢
  rw [List.reverse_reverse] at h1
  exact ⟨A, c, rfl, h1, h2⟩
/-- A call that answers a set in new memory. -/
def Gives (l : List Sp) (w : World) (e : Ending) (w' : World) : Prop := ∃ A c, e = .returned (.slice A l.length c) ∧ Rd w' w'.heap.size A (spc l) ∧ l.length ≤ c ∧ Below w.heap.size w w'
theorem gives_of {l : List Sp} {w w' : World} {e : Ending} {v : Value} (he : e = .returned v) (h : OwnR w' w.heap.size v l.reverse) (hb : Below w.heap.size w w') : Gives l w e w' := by
  obtain ⟨A, c, rfl, h1, h2⟩ := own_slice h
  exact ⟨A, c, he, h1, h2, hb⟩

def joinS (l m : List Sp) : List Sp := canon fun x => memF l x || memF m x
def cutS (l m : List Sp) : List Sp := canon fun x => memF l x && !memF m x
def bothS (l m : List Sp) : List Sp := canon fun x => memF l x && memF m x

section
variable (A A' : Option Addr) (c c' : Nat) (l m : List Sp) (w : World) (hs : Rd w w.heap.size A (spc l)) (hr : rightF 0 l = true) (hs' : Rd w w.heap.size A' (spc m)) (hr' : rightF 0 m = true) (hc : l.length ≤ c) (hc' : m.length ≤ c')
include hs hr hs' hr' hc hc'
end

theorem rd_new (w : World) (cs : Array Value) (t : TypeId) : Rd (w.alloc (.cells cs t)) (w.alloc (.cells cs t)).heap.size (some ⟨w.heap.size, 0, none⟩) cs.toList := fun _ =>
  ⟨w.heap.size, 0, rfl, by simp, fun j v hv => by rw [Nat.zero_add, (Blk.new w t cs).cell j]; simpa using hv⟩

def aliveL : List Sp := [(3, 3), (9, 1)]
theorem alive_canon : canon (inI [5, 3, 4, 9]) = aliveL := canon_eq (by decide) fun n _ _ => by
  rw [Bool.eq_iff_iff, mem_iff]
  simp [inI, aliveL]
  omega
theorem alive_of (g : Nat) (w : World) (hs : Rd w w.heap.size (some ⟨g, 0, none⟩) (ints [5, 3, 4, 9])) :
    Calls Try.prog 50 #[.slice (some ⟨g, 0, none⟩) 4 4] w (Gives aliveL w) := by
  refine (of_any _ 4 [5, 3, 4, 9] w hs (by simp)).mono ?_
  rintro e w' ⟨v, rfl, ho, hb⟩
  rw [alive_canon] at ho
  exact gives_of rfl ho hb
theorem right_nil (w : World) : Calls Try.prog 49 #[.slice none 0 0] w fun e w' => e = .returned (.bool true) ∧ Below w.heap.size w w' := right_any none 0 [] w Rd.nil (by simp [SpOk]) (by simp)
end Go.Proofs.Ytddhacmaogaocaa
