/- Slab's calls as they are to be, whatever lies behind a map; the laws' example, SlabNames. -/
import Derived.Test.YtfkffkocknbjfaaW10
import Derived.Test.YtfkffkocknbjfaaZ
import Derived.Test.YtfkffkocknbjfaaN2
set_option maxRecDepth 10000
namespace Go.Proofs.Ytfkffkocknbjfaa
open Go.RowKit

/-- A step that turns blocks of O alone; the blocks that it leaves are of O or new. -/
structure Step (w w' : World) (O O' : Nat → Prop) : Prop where
  chg : Chg w w' O
  new : ∀ k, O' k → O k ∨ w.heap.size ≤ k
/-- Cells that are read, in no block of O. -/
structure RdA (w : World) (O : Nat → Prop) (A : Option Addr) (xs : List Value) : Prop where
  rd : Rd w w.heap.size A xs
  apart : ∀ b off, A = some ⟨b, off, none⟩ → 0 < xs.length → ¬ O b
section
variable {w w' : World} {O O' : Nat → Prop} {A : Option Addr} {xs : List Value}
theorem RdA.step (h : RdA w O A xs) (s : Step w w' O O') : RdA w' O' A xs := by
  refine ⟨fun hn => ?_, fun b off e hn => ?_⟩
  · obtain ⟨b, off, e, hl, hc⟩ := h.rd hn
    exact ⟨b, off, e, Nat.lt_of_lt_of_le hl s.chg.size, fun j v hv => (s.chg.cell hl (h.apart b off e hn) (off + j)).trans (hc j v hv)⟩
  · intro ho
    obtain ⟨b', off', e', hl, _⟩ := h.rd hn
    rw [e] at e'
    simp only [Option.some.injEq, Addr.mk.injEq, and_true] at e'
    obtain ⟨rfl, rfl⟩ := e'
    rcases s.new b ho with h1 | h1
    · exact h.apart b off e hn h1
    · omega
theorem RdA.far (h : RdA w O A xs) (hb : Below w.heap.size w w') : RdA w' O A xs := ⟨(h.rd.below hb).mono hb.size, h.apart⟩
theorem Rd.apart (h : Rd w w.heap.size A xs) (hO : ∀ k, O k → w.heap.size ≤ k) : RdA w O A xs := by
  refine ⟨h, fun b off e hn ho => ?_⟩
  obtain ⟨b', off', e', hl, _⟩ := h hn
  rw [e] at e'
  simp only [Option.some.injEq, Addr.mk.injEq, and_true] at e'
  obtain ⟨rfl, rfl⟩ := e'
  have := hO b ho
  omega
end
/-- Cells that a call has laid: new ones. -/
structure RdF (w w' : World) (O : Nat → Prop) (A : Option Addr) (xs : List Value) : Prop extends RdA w' O A xs where
  fresh : ∀ b off, A = some ⟨b, off, none⟩ → 0 < xs.length → w.heap.size ≤ b
theorem RdF.beside {w w' w'' : World} {O O2 O2' : Nat → Prop} {A : Option Addr} {xs : List Value} (h : RdF w w' O A xs) (hO : ∀ k, O2 k → k < w.heap.size) (s : Step w' w'' O2 O2') : Rd w'' w''.heap.size A xs :=
  ((⟨h.rd, fun b off e hn ho => by have := h.fresh b off e hn; have := hO b ho; omega⟩ : RdA w' O2 A xs).step s).rd
def turnC (m : Mp) (i : Int) (was now : Nat) : Int := match m.turn i was now with
  | none => 72
  | some _ => 0
def turnM (m : Mp) (i : Int) (was now : Nat) : Mp := match m.turn i was now with
  | none => m
  | some m' => m'
def nextN (m : Mp) : Nat := match m.next with
  | none => 0
  | some i => i
def nextC (m : Mp) : Int := match m.next with
  | none => 71
  | some _ => 0
def nextM (m : Mp) : Mp := match m.next with
  | none => m
  | some i => m.put i 1
def natI (l : List Nat) : List Int := l.map fun n : Nat => (n : Int)
def manyL (m : Mp) (n : Int) : List Nat := match m.many n with
  | none => []
  | some r => r.1
def manyC (m : Mp) (n : Int) : Int := match m.many n with
  | none => 71
  | some _ => 0
def manyM (m : Mp) (n : Int) : Mp := match m.many n with
  | none => m
  | some r => r.2
/-- The calls of package slab as the document has them, whatever lies behind a map: 'At w O g m' says that the block g of w is a map that is m, in the blocks O. -/
structure SlabCalls (At : World → (Nat → Prop) → Nat → Mp → Prop) : Prop where
  foot : ∀ {w O g m}, At w O g m → ∀ k, O k → k < w.heap.size
  small : ∀ {w O g m}, At w O g m → m.tot ≤ 1024 ∧ ∀ i, m.st i ≤ 2
  stay : ∀ {w w' O O2 g m}, At w O g m → Chg w w' O2 → (∀ k, O k → ¬ O2 k) → At w' O g m
  new : ∀ (x : Int) (w : World), I64 x → Calls Try.prog 9 #[.int .i64 x] w fun e w' => ∃ O g, e = .returned (.pointer (some ⟨g, 0, none⟩)) ∧ At w' O g (newMp x) ∧ (∀ k, O k → w.heap.size ≤ k) ∧ Below w.heap.size w w'
  take : ∀ {w O g m} (i : Int), I64 i → At w O g m → Calls Try.prog 20 #[.pointer (some ⟨g, 0, none⟩), .int .i64 i] w fun e w' => ∃ O', e = .returned (.int .i64 (turnC m i 0 1)) ∧ At w' O' g (turnM m i 0 1) ∧ Step w w' O O'
  free : ∀ {w O g m} (i : Int), I64 i → At w O g m → Calls Try.prog 13 #[.pointer (some ⟨g, 0, none⟩), .int .i64 i] w fun e w' => ∃ O', e = .returned (.int .i64 (turnC m i 1 0)) ∧ At w' O' g (turnM m i 1 0) ∧ Step w w' O O'
  later : ∀ {w O g m} (i : Int), I64 i → At w O g m → Calls Try.prog 14 #[.pointer (some ⟨g, 0, none⟩), .int .i64 i] w fun e w' => ∃ O', e = .returned (.int .i64 (turnC m i 1 2)) ∧ At w' O' g (turnM m i 1 2) ∧ Step w w' O O'
  commit : ∀ {w O g m}, At w O g m → Calls Try.prog 15 #[.pointer (some ⟨g, 0, none⟩)] w fun e w' => ∃ O', e = .returned (.tuple #[]) ∧ At w' O' g m.commit ∧ Step w w' O O'
  count : ∀ {w O g m}, At w O g m → Calls Try.prog 10 #[.pointer (some ⟨g, 0, none⟩)] w fun e w' => ∃ O', e = .returned (.int .i64 (m.count : Int)) ∧ At w' O' g m ∧ Step w w' O O'
  room : ∀ {w O g m} (k : Int), I64 k → At w O g m → Calls Try.prog 21 #[.pointer (some ⟨g, 0, none⟩), .int .i64 k] w fun e w' => ∃ O', e = .returned (.int .i64 (m.roomI k : Int)) ∧ At w' O' g m ∧ Step w w' O O'
  alloc : ∀ {w O g m}, At w O g m → Calls Try.prog 23 #[.pointer (some ⟨g, 0, none⟩)] w fun e w' => ∃ O', e = .returned (.tuple #[.int .i64 (nextN m : Int), .int .i64 (nextC m)]) ∧ At w' O' g (nextM m) ∧ Step w w' O O'
  many : ∀ {w O g m} (n : Int), I64 n → At w O g m → Calls Try.prog 12 #[.pointer (some ⟨g, 0, none⟩), .int .i64 n] w fun e w' => ∃ O' A c, e = .returned (.tuple #[.slice A (natI (manyL m n)).length c, .int .i64 (manyC m n)]) ∧ At w' O' g (manyM m n) ∧ RdF w w' O' A (ints (natI (manyL m n))) ∧ Step w w' O O'
  taken : ∀ {w O g m}, At w O g m → Calls Try.prog 11 #[.pointer (some ⟨g, 0, none⟩)] w fun e w' => ∃ O' A c, e = .returned (.slice A (canon (stS m 1)).length c) ∧ At w' O' g m ∧ RdF w w' O' A (spc (canon (stS m 1))) ∧ Step w w' O O'
  waiting : ∀ {w O g m}, At w O g m → Calls Try.prog 18 #[.pointer (some ⟨g, 0, none⟩)] w fun e w' => ∃ O' A c, e = .returned (.slice A (canon (stS m 2)).length c) ∧ At w' O' g m ∧ RdF w w' O' A (spc (canon (stS m 2))) ∧ Step w w' O O'
  copy : ∀ {w O g m}, At w O g m → Calls Try.prog 22 #[.pointer (some ⟨g, 0, none⟩)] w fun e w' => ∃ O' O2 g2, e = .returned (.pointer (some ⟨g2, 0, none⟩)) ∧ At w' O' g m ∧ At w' O2 g2 m ∧ (∀ k, O2 k → w.heap.size ≤ k ∧ ¬ O' k) ∧ Step w w' O O'
section
variable {At : World → (Nat → Prop) → Nat → Mp → Prop}
/-- A map that a law has made, since the world w0. -/
structure Has (At : World → (Nat → Prop) → Nat → Mp → Prop) (w0 w : World) (O : Nat → Prop) (g : Nat) (m : Mp) : Prop where
  at_ : At w O g m
  lo : ∀ k, O k → w0.heap.size ≤ k
  below : Below w0.heap.size w0 w
variable {w0 w w' : World} {O O' : Nat → Prop} {g : Nat} {m m' : Mp}
theorem Has.step (h : Has At w0 w O g m) (k : At w' O' g m') (s : Step w w' O O') : Has At w0 w' O' g m' :=
  ⟨k, fun j hj => (s.new j hj).elim (h.lo j) fun h2 => Nat.le_trans h.below.size h2, h.below.trans (s.chg.below h.lo h.below.size)⟩
theorem Has.far (L : SlabCalls At) (h : Has At w0 w O g m) (hb : Below w.heap.size w w') : Has At w0 w' O g m :=
  ⟨L.stay h.at_ (Chg.of_below (O := fun _ => False) hb) (fun _ _ => id), h.lo, h.below.trans (hb.mono h.below.size)⟩
theorem Has.first (hb : Below w0.heap.size w0 w) (h : At w' O g m) (hO : ∀ k, O k → w.heap.size ≤ k) (hb' : Below w.heap.size w w') : Has At w0 w' O g m :=
  ⟨h, fun k hk => Nat.le_trans hb.size (hO k hk), hb.trans (hb'.mono hb.size)⟩
end
end Go.Proofs.Ytfkffkocknbjfaa
