import Derived.Test.YtgbghmgipnphkaaG

/- Bytes in memory: a slice of bytes that is read, one of the call's own, appends. No function of the program; the type's numbers alone. -/
import Derived.Deep.QuietTactic
import Derived.BigQuiet
import Derived.Maps.AppendAt
import Derived.Laws.BitsAllLaws
set_option maxRecDepth 10000
namespace Go.Proofs.Ytgbghmgipnphkaa
open Go.RowKit

/-- append(t, b): one byte more behind a copy. -/
theorem app_more {ops : Array Oper} {rest : List Oper} {o : Oper} {a : Act} {w : World} {Q : Exit → Act → World → Prop} (hgd : o.guard = none) (s x : Nat)
    (ho : o.op = .call { callee := .builtin .append, args := #[.tmp s, .tmp x], argTypes := #[46, 46] })
    (A : Option Addr) (n c base : Nat) (t : List UInt8) (b : UInt8) (z : Int) (hs : a.eval (.tmp s) = .slice A n c) (hn : t.length = n) (hown : OwnB w base (.slice A n c) t) (hz : z = (b.toNat : Int))
    (hx : a.eval (.tmp x) = .slice (some ⟨w.heap.size, 0, none⟩) 1 1) (hbase : base ≤ w.heap.size) (hl : n + 1 ≤ 140737488355328)
    (h : ∀ A' c' w', Rd w' w'.heap.size A' (bys (t ++ [b])) → n + 1 ≤ c' → Below base w w' → wpList Try.prog ops Q rest (a.put o.dst (.slice A' (n + 1) c')) w') :
    wpList Try.prog ops Q (o :: rest) a (w.alloc (.cells #[.int .u8 z] 5)) := by
  subst hn
  refine app_one Try.underlying46 infoByte rfl hgd s x ho base _ _ _ hs hown _ rfl hx hbase (by omega) (by omega) ?_
  intro v' w' h1 h2
  have h3 := ownB_snoc rfl hz h1
  obtain ⟨A', c', rfl, h4, h5⟩ := own_rd h3
  rw [List.length_append] at h5 ⊢
  exact h A' c' w' h4 h5 (below_own ((Below.refl _ _).alloc hbase _) (World.ownsRow.alloc hown _) (Nat.le_refl _) (by simp; omega) h2)
end Go.Proofs.Ytgbghmgipnphkaa
