/- Moves: as data, in memory, held against each other; whether one can be (the reference's right); Same. -/
import Derived.Test.YtklccgmhllpjkaaW10
import Derived.Test.YtklccgmhllpjkaaEB
import Derived.Test.YtklccgmhllpjkaaZ
import Derived.Deep.MidRow
import Derived.Laws.StructEq
import Derived.Lib.SmallJoins
import Derived.Deep.Cut
set_option maxRecDepth 10000
namespace Go.Proofs.Ytklccgmhllpjkaa
open Go.RowKit

structure Mv where
  t : Bool
  s : Int
  n : Int
theorem Mv.eq : ∀ {a b : Mv}, a.t = b.t → a.s = b.s → a.n = b.n → a = b
  | ⟨_, _, _⟩, ⟨_, _, _⟩, rfl, rfl, rfl => rfl
def Mv.same (a b : Mv) : Bool := a.t == b.t && a.s == b.s && a.n == b.n
theorem Mv.same_iff {a b : Mv} : a.same b = true ↔ a = b := by
  constructor
  · intro h
    simp only [Mv.same, Bool.and_eq_true, beq_iff_eq] at h
    exact Mv.eq h.1.1 h.1.2 h.2
  · rintro rfl
    simp [Mv.same]
instance : DecidableEq Mv := fun a b => if h : a.same b = true then isTrue (Mv.same_iff.1 h) else isFalse fun e => h (Mv.same_iff.2 e)
theorem Mv.same_self (a : Mv) : a.same a = true := Mv.same_iff.2 rfl
def Mv.ok (m : Mv) : Prop := I64 m.s ∧ I64 m.n
def Mv.cs (m : Mv) : List Value := [.bool m.t, .int .i64 m.s, .int .i64 m.n]
theorem Mv.cs_len (m : Mv) : m.cs.length = 3 := rfl
theorem Mv.one (m : Mv) : ∀ v ∈ m.cs, v.oneCell' = true := by
  intro v hv
  simp only [Mv.cs, List.mem_cons, List.not_mem_nil, or_false] at hv
  rcases hv with rfl | rfl | rfl <;> rfl
def zmv : Mv := ⟨false, 0, 0⟩
theorem infoMv : (Try.prog.info? 54).map (fun i => (i.zero, i.size, i.bytes)) = some (some (.agg zmv.cs.toArray), 3, 24) := by kernel_rfl
theorem sizeMv : (Try.prog.info? 54).map (·.size) = some 3 := by kernel_rfl
theorem sizeMv' (m : Mv) : (Try.prog.info? 54).map (·.size) = some m.cs.length := sizeMv
theorem sizeMv'' (m : Mv) : (Try.prog.info? 54).map (·.size) = some m.cs.toArray.size := sizeMv
theorem zeroMv (w : World) : Sem.run Try.prog (zeroValue 54) w = .ok (.agg zmv.cs.toArray) w := by
  obtain ⟨i, hi, hz, _, _⟩ := info_parts infoMv
  simp [zeroValue, typeInfo, hi, hz]
theorem ld_mv {ops : Array Oper} {rest : List Oper} {o : Oper} {a : Act} {w : World} {Q : Exit → Act → World → Prop} (hgd : o.guard = none) (x : Operand) (ho : o.op = .load 54 x)
    (b k : Nat) (s : Mv) (hx : a.eval x = .pointer (some ⟨b, k, none⟩)) (hr : w.rangeAt b k s.cs)
    (h : wpList Try.prog ops Q rest (a.put o.dst (.agg s.cs.toArray)) w) : wpList Try.prog ops Q (o :: rest) a w :=
  wpList_load_mid hgd _ x ho b k hx s.cs _ hr Try.underlying54 rfl (sizeMv' s) h
theorem all_oneV {l : List Value} (h : ∀ u ∈ l, u.oneCell' = true) : l.toArray.all (·.oneCell') = true := by
  rw [Array.all_eq_true_iff_forall_mem]
  intro v hv
  exact h v (by simpa using hv)
theorem st_mv {ops : Array Oper} {rest : List Oper} {o : Oper} {a : Act} {w : World} {Q : Exit → Act → World → Prop} (hgd : o.guard = none) (x y : Operand) (ho : o.op = .store 54 x y)
    (b k : Nat) (s : Mv) (hx : a.eval x = .pointer (some ⟨b, k, none⟩)) (hy : a.eval y = .agg s.cs.toArray) (ht : w.there b k 3)
    (h : ∀ w', Hid (w' = w.setCells b k s.cs) → wpList Try.prog ops Q rest (a.put o.dst undef) w') : wpList Try.prog ops Q (o :: rest) a w :=
  wpList_store_mid hgd _ x y ho b k s.cs.toArray hx hy ht (sizeMv'' s) (all_oneV s.one) (h _ rfl)
def mvs (l : List Mv) : List Value := l.flatMap Mv.cs
theorem mvs_len : ∀ l : List Mv, (mvs l).length = l.length * 3
  | [] => rfl
  | s :: r => by
    have := mvs_len r
    simp only [mvs, List.flatMap_cons, List.length_append, Mv.cs_len, List.length_cons] at this ⊢
    omega
theorem mvs_at : ∀ (l : List Mv) (i : Nat) (h : i < l.length) (j : Nat), j < 3 → (mvs l)[i * 3 + j]? = (l[i].cs)[j]?
  | s :: r, 0, _, j, hj => by
    simp only [mvs, List.flatMap_cons, Nat.zero_mul, Nat.zero_add, List.getElem_cons_zero]
    rw [List.getElem?_append_left (by rw [Mv.cs_len]; exact hj)]
  | s :: r, i + 1, h, j, hj => by
    have := mvs_at r i (by simpa using h) j hj
    simp only [mvs, List.flatMap_cons, List.getElem_cons_succ] at this ⊢
    rw [List.getElem?_append_right (by rw [Mv.cs_len]; omega), Mv.cs_len, show (i + 1) * 3 + j - 3 = i * 3 + j by omega]
    exact this
theorem mvs_one (l : List Mv) : ∀ u ∈ mvs l, u.oneCell' = true := by
  intro u hu
  simp only [mvs, List.mem_flatMap] at hu
  obtain ⟨s, _, hs⟩ := hu
  exact s.one u hs
theorem mvs_snoc (l : List Mv) (s : Mv) : mvs (l ++ [s]) = mvs l ++ s.cs := by simp [mvs]
theorem Rd.mv {w : World} {B : Nat} {A : Option Addr} {l : List Mv} (h : Rd w B A (mvs l)) (k : Nat) (hk : k < l.length) : ∃ b off, A = some ⟨b, off, none⟩ ∧ b < B ∧ w.rangeAt b (off + k * 3) l[k].cs := by
  obtain ⟨b, off, e, hl, hc⟩ := h (by rw [mvs_len]; omega)
  refine ⟨b, off, e, hl, fun j v hv => ?_⟩
  have hj : j < 3 := by have := (List.getElem?_eq_some_iff.1 hv).1; rwa [Mv.cs_len] at this
  rw [Nat.add_assoc]
  exact hc _ v (by rw [mvs_at l k hk j hj]; exact hv)
section
variable {w w' : World} {g : Nat} {t : TypeId} {m : Mv}
theorem Blk.mvAll (h : Blk w g t m.cs.toArray) (v : Mv) : Blk (w.setCells g 0 v.cs) g t v.cs.toArray := h.setAll v.cs rfl
theorem Blk.mvHas (h : Blk w g t m.cs.toArray) : w.there g 0 3 := fun j hj =>
  ⟨by rw [Nat.zero_add, h.cell]; rcases j with _ | _ | _ | j <;> first | rfl | omega, h.frozen _⟩
theorem Blk.mvIs (h : Blk w g t m.cs.toArray) : w.rangeAt g 0 m.cs := fun j v hv => by rw [Nat.zero_add, h.cell, List.getElem?_toArray]; exact hv
theorem Blk.mvF (h : Blk w g t m.cs.toArray) : w.cell? ⟨g, 0, none⟩ = some (.bool m.t) ∧ w.cell? ⟨g, 1, none⟩ = some (.int .i64 m.s) ∧ w.cell? ⟨g, 2, none⟩ = some (.int .i64 m.n) := ⟨h.cell 0, h.cell 1, h.cell 2⟩
theorem new_mv {x : Mv} (h : w' = (w.alloc (.cells zmv.cs.toArray 54)).setCells w.heap.size 0 x.cs) : Blk w' w.heap.size 54 x.cs.toArray ∧ Below w.heap.size w w' := by
  subst h
  exact ⟨Blk.mvAll (m := zmv) (Blk.new w _ _) x, Below.setCells _ (Nat.le_refl _) _ _ ((Below.refl _ _).alloc (Nat.le_refl _) _)⟩
end
end Go.Proofs.Ytklccgmhllpjkaa
