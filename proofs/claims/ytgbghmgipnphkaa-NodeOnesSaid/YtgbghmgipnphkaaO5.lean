import Derived.Test.YtgbghmgipnphkaaQ8
import Derived.Test.YtgbghmgipnphkaaV11
import Derived.Test.YtgbghmgipnphkaaO1

/- Rows of pointers; a copy of bytes that is new; texts in memory. Piles as mathematics: what is put and had. -/

set_option maxRecDepth 10000
set_option maxRecDepth 10000
namespace Go.Proofs.Ytgbghmgipnphkaa
open Go.RowKit

def pqs (l : List PtrV) : List Value := l.flatMap fun q => [.int .i64 q.1, .int .u64 q.2.1, .int .u32 q.2.2]
theorem pqs_len : ∀ l : List PtrV, (pqs l).length = l.length * 3
  | [] => rfl
  | q :: r => by
    have := pqs_len r
    simp only [pqs, List.flatMap_cons, List.length_append, List.length_cons, List.length_nil] at this ⊢
    omega
theorem pqs_snoc (l : List PtrV) (q : PtrV) : pqs (l ++ [q]) = pqs l ++ [.int .i64 q.1, .int .u64 q.2.1, .int .u32 q.2.2] := by simp [pqs]
theorem pqs_at : ∀ (l : List PtrV) (k : Nat) (h : k < l.length), (pqs l)[k * 3]? = some (.int .i64 l[k].1) ∧ (pqs l)[k * 3 + 1]? = some (.int .u64 l[k].2.1) ∧ (pqs l)[k * 3 + 2]? = some (.int .u32 l[k].2.2)
  | q :: r, 0, _ => ⟨rfl, rfl, rfl⟩
  | q :: r, k + 1, h => by
    have := pqs_at r k (by simpa using h)
    rw [show (k + 1) * 3 = k * 3 + 1 + 1 + 1 by omega]
    exact this
theorem pq_at {w : World} {B : Nat} {A : Option Addr} {l : List PtrV} (h : Rd w B A (pqs l)) (k : Nat) (hk : k < l.length) :
    ∃ b off, A = some ⟨b, off, none⟩ ∧ b < B ∧ w.cell? ⟨b, off + k * 3, none⟩ = some (.int .i64 l[k].1) ∧ w.cell? ⟨b, off + k * 3 + 1, none⟩ = some (.int .u64 l[k].2.1) ∧ w.cell? ⟨b, off + k * 3 + 2, none⟩ = some (.int .u32 l[k].2.2) := by
  obtain ⟨h1, h2, h3⟩ := pqs_at l k hk
  obtain ⟨b, off, rfl, hl, hc⟩ := h (by rw [pqs_len]; omega)
  exact ⟨b, off, rfl, hl, hc _ _ h1, hc _ _ h2, hc _ _ h3⟩
theorem infoPtr : (Try.prog.info? 30).map (fun i => (i.zero, i.size, i.bytes)) = some (some (ptv 0 0 0), 3, 24) := by kernel_rfl
/-! ### Texts in memory -/
/-! ### What is put and had -/
end Go.Proofs.Ytgbghmgipnphkaa
