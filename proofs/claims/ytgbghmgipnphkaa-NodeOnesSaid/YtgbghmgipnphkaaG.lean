import Derived.Test.YtgbghmgipnphkaaQ8

/- Bytes in memory: cells that are read, appends to rows of whatever type. No function of the program, no type's number. -/
import Derived.Deep.QuietTactic
import Derived.BigQuiet
import Derived.Maps.AppendAt
import Derived.Laws.BitsAllLaws
set_option maxRecDepth 10000
namespace Go.Proofs.Ytgbghmgipnphkaa
open Go.RowKit

/-- append([]T{}, l...): a copy of a list. -/
theorem app_fresh {P : Program} {T E : TypeId} {z : Value} {bytes : Nat} (hT : P.underlying T = some (.slice E)) (hinfo : (P.info? E).map (fun i => (i.zero, i.size, i.bytes)) = some (some z, 1, bytes)) (hz1 : z.cells.size = 1)
    {ops : Array Oper} {rest : List Oper} {o : Oper} {a : Act} {w : World} {Q : Exit → Act → World → Prop} (hgd : o.guard = none) (s x : Nat)
    (ho : o.op = .call { callee := .builtin .append, args := #[.tmp s, .tmp x], argTypes := #[T, T] })
    (hs : a.eval (.tmp s) = .slice (some ⟨w.heap.size, 0, none⟩) 0 0) (B : Nat) (A : Option Addr) (m c : Nat) (news : List Value)
    (hx : a.eval (.tmp x) = .slice A m c) (hm : news.length = m) (hr : Rd (w.alloc (.cells #[] E)) B A news) (h1 : ∀ u ∈ news, u.oneCell' = true) (hb0 : 0 < bytes) (hn : m * bytes ≤ 140737488355328)
    (h : ∀ A' c' w', Rd w' w'.heap.size A' news → m ≤ c' → Below w.heap.size w w' → wpList P ops Q rest (a.put o.dst (.slice A' m c')) w') :
    wpList P ops Q (o :: rest) a (w.alloc (.cells #[] E)) := by
  have hE : (w.alloc (.cells #[] E)).ownsRow w.heap.size E 1 (.slice (some ⟨w.heap.size, 0, none⟩) 0 0) 0 [] := World.ownsRow_lit (base := w.heap.size) (e := E) (size := 1) w #[] 0 (Nat.le_refl _) (by simp [maxLen]) rfl
  refine app_all hT hinfo hz1 hgd s x ho w.heap.size _ 0 [] hs hE B A m c news hx hm hr h1 (by simp) hb0 (by simpa using hn) ?_
  intro v' w' h1 h2
  simp only [Nat.zero_add, List.nil_append] at h1
  obtain ⟨A', c', rfl, hX, hc⟩ := own_rd h1
  exact h A' c' w' hX hc (below_own ((Below.refl _ _).alloc (Nat.le_refl _) _) hE (Nat.le_refl _) (by simp) h2)
end Go.Proofs.Ytgbghmgipnphkaa
