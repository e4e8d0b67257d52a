import Derived.Test.YtddhacmaogaocaaN2
import Derived.Test.YtddhacmaogaocaaV1
import Derived.Test.YtddhacmaogaocaaW10

/- Slab's calls as they are to be, whatever lies behind a map; the laws' example, SlabNames. -/
set_option maxRecDepth 10000
set_option maxRecDepth 10000
namespace Go.Proofs.Ytddhacmaogaocaa
open Go.RowKit

/-- A step that turns blocks of O alone; the blocks that it leaves are of O or new. -/
structure Step (w w' : World) (O O' : Nat → Prop) : Prop where
  chg : Chg w w' O
  new : ∀ k, O' k → O k ∨ w.heap.size ≤ k
/-- Cells that are read, in no block of O. -/
structure RdA (w : World) (O : Nat → Prop) (A : Option Addr) (xs : List Value) : Prop where
  rd : Rd w w.heap.size A xs
  apart : ∀ b off, A = some ⟨b, off, none⟩ → 0 < xs.length → ¬ O b
section
variable {w w' : World} {O O' : Nat → Prop} {A : Option Addr} {xs : List Value}
theorem RdA.step (h : RdA w O A xs) (s : Step w w' O O') : RdA w' O' A xs := by
  refine ⟨fun hn => ?_, fun b off e hn => ?_⟩
  · obtain ⟨b, off, e, hl, hc⟩ := h.rd hn
    exact ⟨b, off, e, Nat.lt_of_lt_of_le hl s.chg.size, fun j v hv => (s.chg.cell hl (h.apart b off e hn) (off + j)).trans (hc j v hv)⟩
  · intro ho
    obtain ⟨b', off', e', hl, _⟩ := h.rd hn
    rw [e] at e'
    simp only [Option.some.injEq, Addr.mk.injEq, and_true] at e'
    obtain ⟨rfl, rfl⟩ := e'
    rcases s.new b ho with h1 | h1
    · exact h.apart b off e hn h1
    · omega
theorem RdA.far (h : RdA w O A xs) (hb : Below w.heap.size w w') : RdA w' O A xs := ⟨(h.rd.below hb).mono hb.size, h.apart⟩
theorem Rd.apart (h : Rd w w.heap.size A xs) (hO : ∀ k, O k → w.heap.size ≤ k) : RdA w O A xs := by
  refine ⟨h, fun b off e hn ho => ?_⟩
  obtain ⟨b', off', e', hl, _⟩ := h hn
  rw [e] at e'
  simp only [Option.some.injEq, Addr.mk.injEq, and_true] at e'
  obtain ⟨rfl, rfl⟩ := e'
  have := hO b ho
  omega
end
/-- Cells that a call has laid: new ones. -/
structure RdF (w w' : World) (O : Nat → Prop) (A : Option Addr) (xs : List Value) : Prop extends RdA w' O A xs where
  fresh : ∀ b off, A = some ⟨b, off, none⟩ → 0 < xs.length → w.heap.size ≤ b
theorem RdF.beside {w w' w'' : World} {O O2 O2' : Nat → Prop} {A : Option Addr} {xs : List Value} (h : RdF w w' O A xs) (hO : ∀ k, O2 k → k < w.heap.size) (s : Step w' w'' O2 O2') : Rd w'' w''.heap.size A xs :=
  ((⟨h.rd, fun b off e hn ho => by have := h.fresh b off e hn; have := hO b ho; omega⟩ : RdA w' O2 A xs).step s).rd
def turnC (m : Mp) (i : Int) (was now : Nat) : Int := match m.turn i was now with
  | none => 72
  | some _ => 0
def turnM (m : Mp) (i : Int) (was now : Nat) : Mp := match m.turn i was now with
  | none => m
  | some m' => m'
def nextN (m : Mp) : Nat := match m.next with
  | none => 0
  | some i => i
def nextC (m : Mp) : Int := match m.next with
  | none => 71
  | some _ => 0
def nextM (m : Mp) : Mp := match m.next with
  | none => m
  | some i => m.put i 1
def natI (l : List Nat) : List Int := l.map fun n : Nat => (n : Int)
def manyL (m : Mp) (n : Int) : List Nat := match m.many n with
  | none => []
  | some r => r.1
def manyC (m : Mp) (n : Int) : Int := match m.many n with
  | none => 71
  | some _ => 0
def manyM (m : Mp) (n : Int) : Mp := match m.many n with
  | none => m
  | some r => r.2
section
variable {At : World → (Nat → Prop) → Nat → Mp → Prop}
variable {w0 w w' : World} {O O' : Nat → Prop} {g : Nat} {m m' : Mp}
end
end Go.Proofs.Ytddhacmaogaocaa
