import Derived.Test.YtddhacmaogaocaaV11
import Derived.Test.YtddhacmaogaocaaB

/- An uber's bytes: plain mathematics; copies into a sector; the widths. -/
import Derived.Lib.LazyBuf
import Derived.Laws.IdiomCopy
set_option maxRecDepth 10000
set_option maxRecDepth 10000
namespace Go.Proofs.Ytddhacmaogaocaa
open Go.RowKit

/-- A list written over from a place on. -/
def spl (L : List UInt8) (k : Nat) (l : List UInt8) : List UInt8 := L.take k ++ (l ++ L.drop (k + l.length))
theorem spl_len {L l : List UInt8} {k : Nat} (h : k + l.length ≤ L.length) : (spl L k l).length = L.length := by
  simp only [spl, List.length_append, List.length_take, List.length_drop]
  omega
theorem spl_at {L l : List UInt8} {k : Nat} (h : k + l.length ≤ L.length) (i : Nat) : (spl L k l)[i]? = if k ≤ i ∧ i < k + l.length then l[i - k]? else L[i]? := by
  unfold spl
  by_cases h1 : i < k
  · rw [if_neg (by omega), List.getElem?_append_left (by rw [List.length_take]; omega), List.getElem?_take, if_pos h1]
  · rw [List.getElem?_append_right (by rw [List.length_take]; omega), List.length_take, Nat.min_eq_left (by omega)]
    by_cases h2 : i < k + l.length
    · rw [if_pos (by omega), List.getElem?_append_left (by omega)]
    · rw [if_neg (by omega), List.getElem?_append_right (by omega), List.getElem?_drop]
      congr 1
      omega
theorem bys_get (l : List UInt8) (i : Nat) : (bys l)[i]? = l[i]?.map fun b : UInt8 => .int .u8 (b.toNat : Int) := by simp [bys]
theorem Blk.spl {w : World} {g : Nat} {t : TypeId} {L : List UInt8} (h : Blk w g t (bys L).toArray) (k : Nat) (l : List UInt8) (hk : k + l.length ≤ L.length) : Blk (w.setCells g k (bys l)) g t (bys (spl L k l)).toArray :=
  h.setTo _ _ (by rw [bys_len, List.size_toArray, bys_len]; exact hk) fun i => by
    rw [List.getElem?_toArray, List.getElem?_toArray, bys_len, bys_get, bys_get, bys_get, spl_at hk]
    split <;> rfl
theorem infoB1 : (Try.prog.info? 5).map (·.size) = some 1 := by kernel_rfl
/-- copy of bytes into a block of bytes. -/
theorem cp_bys {ops : Array Oper} {rest : List Oper} {o : Oper} {a : Act} {w : World} {Q : Exit → Act → World → Prop} (hgd : o.guard = none) (x y : Operand)
    (ho : o.op = .call { callee := .builtin .copy, args := #[x, y], argTypes := #[37, 37] }) (g k m c n c' B : Nat) (A : Option Addr) (t : TypeId) (L l L' : List UInt8) (hL : spl L k l = L')
    (hx : a.eval x = .slice (some ⟨g, k, none⟩) m c) (hy : a.eval y = .slice A n c') (hB : Blk w g t (bys L).toArray) (hr : Rd w B A (bys l)) (hn : l.length = n) (h0 : 0 < n) (hnm : n ≤ m) (hk : k + n ≤ L.length)
    (h : ∀ w', Hid (Blk w' g t (bys L').toArray ∧ Chg w w' (· = g)) → wpList Try.prog ops Q rest (a.put o.dst (goInt n)) w') : wpList Try.prog ops Q (o :: rest) a w := by
  subst hn hL
  obtain ⟨b, off, rfl, _, hc⟩ := hr (by rw [bys_len]; exact h0)
  have ht := hB.there k l.length (by rw [List.size_toArray, bys_len]; exact hk)
  have hrun := run_copy_cells (P := Try.prog) w 37 37 o.type 5 g k m c ⟨b, off, none⟩ l.length c' (bys l) Try.underlying37 infoB1 (by rw [bys_len]; exact (Nat.min_eq_left hnm).symm)
    (fun j v hv => by rw [Addr.add_mid]; exact hc j v hv) (fun j hj => (ht j (by rwa [bys_len] at hj)).1) (fun j hj => (ht j (by rwa [bys_len] at hj)).2) bys_one
  rw [bys_len] at hrun
  refine wpList_plain hgd fun _ hK => ?_
  unfold Oper.wp execOp
  simp only [ho, resolve, invoke, builtin, Sem.run_bind, Sem.run_pure, Result.andThen_ok, List.map_toArray, List.map_cons, List.map_nil, hx, hy, hrun]
  exact hK _ _ (h _ ⟨hB.spl k l hk, Chg.setCells (O := (· = g)) (.inl rfl) _ _ (Chg.refl _ _)⟩)
/-! ### The widths -/
end Go.Proofs.Ytddhacmaogaocaa
