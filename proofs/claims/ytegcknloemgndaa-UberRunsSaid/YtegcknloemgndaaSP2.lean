/- Rows of ubers; the sort as a contract; by rising numbers: plain mathematics. -/
import Derived.Test.YtegcknloemgndaaSO
set_option maxRecDepth 10000
namespace Go.Proofs.Ytegcknloemgndaa
open Go.RowKit

def flatU (l : List Ub) : List Value := l.flatMap Ub.cs
theorem flatU_len : ∀ l : List Ub, (flatU l).length = l.length * 7
  | [] => rfl
  | s :: r => by
    have := flatU_len r
    simp only [flatU, List.flatMap_cons, List.length_append, Ub.cs_len, List.length_cons] at this ⊢
    omega
theorem flatU_at : ∀ (l : List Ub) (i : Nat) (h : i < l.length) (j : Nat), j < 7 → (flatU l)[i * 7 + j]? = (l[i].cs)[j]?
  | s :: r, 0, _, j, hj => by
    simp only [flatU, List.flatMap_cons, Nat.zero_mul, Nat.zero_add, List.getElem_cons_zero]
    rw [List.getElem?_append_left (by rw [Ub.cs_len]; exact hj)]
  | s :: r, i + 1, h, j, hj => by
    have := flatU_at r i (by simpa using h) j hj
    simp only [flatU, List.flatMap_cons, List.getElem_cons_succ] at this ⊢
    rw [List.getElem?_append_right (by rw [Ub.cs_len]; omega), Ub.cs_len, show (i + 1) * 7 + j - 7 = i * 7 + j by omega]
    exact this
theorem flatU_one (l : List Ub) : ∀ u ∈ flatU l, u.oneCell' = true := by
  intro u hu
  simp only [flatU, List.mem_flatMap] at hu
  obtain ⟨s, _, hs⟩ := hu
  exact s.one u hs
theorem flatU_snoc (l : List Ub) (s : Ub) : flatU (l ++ [s]) = flatU l ++ s.cs := by simp [flatU]
instance : Inhabited Ub := ⟨zub⟩
theorem Rd.ub {w : World} {B : Nat} {A : Option Addr} {l : List Ub} (h : Rd w B A (flatU l)) (k : Nat) (hk : k < l.length) : ∃ b off, A = some ⟨b, off, none⟩ ∧ b < B ∧ w.rangeAt b (off + k * 7) l[k].cs := by
  obtain ⟨b, off, e, hl, hc⟩ := h (by rw [flatU_len]; omega)
  refine ⟨b, off, e, hl, fun j v hv => ?_⟩
  have hj : j < 7 := by have := (List.getElem?_eq_some_iff.1 hv).1; rwa [Ub.cs_len] at this
  rw [Nat.add_assoc]
  exact hc _ v (by rw [flatU_at l k hk j hj]; exact hv)
theorem flatK_at (l : List Ub) (t : Nat) (ht : t < l.length * 7) : some (id (Go.Sort.flatK Ub.cs 7 l.toArray)[t]!) = (flatU l)[t]? := by
  have h1 : t = t / 7 * 7 + t % 7 := by omega
  have h2 : t / 7 < l.length := by omega
  have h3 : t % 7 < 7 := by omega
  rw [Go.Sort.get_flatK _ _ _ _ (by simpa using ht)]
  conv => rhs; rw [h1]
  rw [flatU_at l _ h2 _ h3]
  have e : l.toArray[t / 7]! = l[t / 7] := by simp [h2]
  rw [e]
  have : t % 7 < (l[t / 7].cs).length := h3
  rw [List.getElem?_eq_getElem this, show (l[t / 7].cs)[t % 7]! = (l[t / 7].cs)[t % 7] from getElem!_pos (l[t / 7].cs) (t % 7) this]
  rfl
theorem chg_sort {w : World} {blk off n : Nat} {d : Array Ub} {os : Array Obj} : Chg w (sortWorldK Ub.cs 7 w blk off n d os) (· = blk) := by
  unfold sortWorldK
  refine ⟨rfl, rfl, rfl, ?_, fun k hk hn => ?_⟩
  · simp [Go.Sort.grow, Go.Sort.putRowK, Go.Sort.putRow, Go.Sort.mapBlock, Go.Sort.ahead]
  · rw [Go.Sort.heap_grow_old _ _ (by simpa [Go.Sort.putRowK, Go.Sort.putRow, Go.Sort.mapBlock, Go.Sort.ahead] using hk)]
    simp only [Go.Sort.putRowK, Go.Sort.putRow, Go.Sort.mapBlock, Go.Sort.ahead]
    rw [Array.getElem?_modify, if_neg (fun e => hn e.symm)]
def lessU (x y : Ub) : Prop := x.txg ≤ y.txg
theorem cmpF_neg (x y : Int) : cmpF x y < 0 ↔ x < y := by
  unfold cmpF
  split
  · omega
  · split <;> omega
theorem swoU : Go.Sort.SWO (Go.Proofs.ltOf fun x y : Ub => cmpF (x.txg : Int) (y.txg : Int)) := by
  constructor
  · intro x
    simp only [ltOf, decide_eq_false_iff_not, cmpF_neg]
    omega
  · intro x y z
    simp only [ltOf, decide_eq_true_eq, cmpF_neg]
    omega
  · intro x y z
    simp only [ltOf, decide_eq_false_iff_not, cmpF_neg]
    omega
/-- The sort: a row of its caller's is sorted. -/
theorem sort_any {w : World} {base g cap : Nat} {l : List Ub} (h : w.ownsRow base 27 7 (.slice (some ⟨g, 0, none⟩) l.length cap) l.length (flatU l)) (h12 : l.length ≤ 12) :
    Calls Try.prog 54 #[.slice (some ⟨g, 0, none⟩) l.length cap, .func (.func 55) #[] #[]] w fun e w' =>
      e = .returned (.tuple #[]) ∧ ∃ l', l'.Perm l ∧ l'.Pairwise lessU ∧ Rd w' w'.heap.size (some ⟨g, 0, none⟩) (flatU l') ∧ Chg w w' (· = g) := by
  have hg : g < w.heap.size := (h.lt g rfl).2
  have hH : Go.Sort.HoldsK Ub.cs 7 w g 0 l.toArray := by
    intro j hj
    simp only [Go.Sort.size_flatK, List.size_toArray] at hj
    rw [Nat.zero_add, flatK_at l j hj]
    exact ⟨h.cellAt j hj, h.frozenAt j⟩
  have eg : ∀ args w, (callFunc 55 args).run Try.prog w = .ok (.enter 55 args) w := enters_of Try.func55 (by kernel_rfl) rfl
  have hcon := AnyQ.slices_SortFunc_small_sorted sortU 7 Try.isAgg27 Try.sizeOf27 Ub.cs Ub.cs_len Ub.one (fun x y : Ub => cmpF (x.txg : Int) (y.txg : Int)) 55 #[] swoU g 0 cap l.toArray w eg (fun _ _ _ _ x y => closureU x y _) hH hg (by simpa using h12) hlenU
  change Calls Try.prog 54 _ _ _ at hcon
  rw [List.size_toArray] at hcon
  refine hcon.mono ?_
  rintro e w' ⟨rfl, d', n, os, hp, hs, rfl⟩
  have hsz : d'.size = l.length := by simpa using hp.1
  refine ⟨rfl, d'.toList, ?_, ?_, ?_, chg_sort⟩
  · have := hp.2.2
    rwa [show d'.extract 0 l.length = d' by rw [← hsz]; simp, show l.toArray.extract 0 l.length = l.toArray by rw [← List.size_toArray]; exact Array.extract_size] at this
  · rw [List.pairwise_iff_getElem]
    intro i j hi hj hij
    have := hs i j (Nat.zero_le _) hij (by rw [← hsz]; simpa using hj)
    simp only [ltOf, decide_eq_false_iff_not, cmpF_neg] at this
    rw [getElem!_pos d' j (by simpa using hj), getElem!_pos d' i (by simpa using hi)] at this
    simp only [lessU, Array.getElem_toList]
    omega
  · have hh := holdsK_sortWorldK Ub.cs 7 w g 0 n l.toArray d' os hg hH (by simpa using hsz)
    intro _
    refine ⟨g, 0, rfl, lt_sortWorldK _ _ _ _ _ _ _ _ hg, fun j v hv => ?_⟩
    have hj : j < d'.toList.length * 7 := by have := (List.getElem?_eq_some_iff.1 hv).1; rwa [flatU_len] at this
    have := (hh j (by simpa using hj)).1
    rw [show Go.Sort.flatK Ub.cs 7 d' = Go.Sort.flatK Ub.cs 7 d'.toList.toArray by simp, flatK_at d'.toList j hj] at this
    exact this.trans hv

/-! ### By rising numbers -/
def insU (u : Ub) : List Ub → List Ub
  | [] => [u]
  | x :: r => if u.txg < x.txg then u :: x :: r else x :: insU u r
def sortUs (l : List Ub) : List Ub := l.foldl (fun acc u => insU u acc) []
theorem ins_perm (u : Ub) : ∀ l, (insU u l).Perm (u :: l)
  | [] => List.Perm.refl _
  | x :: r => by
    unfold insU
    split
    · exact List.Perm.refl _
    · exact ((ins_perm u r).cons x).trans (List.Perm.swap u x r)
theorem ins_sorted (u : Ub) : ∀ l : List Ub, l.Pairwise lessU → (insU u l).Pairwise lessU
  | [], _ => List.pairwise_singleton _ _
  | x :: r, h => by
    obtain ⟨h1, h2⟩ := List.pairwise_cons.1 h
    unfold insU
    split
    · rename_i hlt
      refine List.pairwise_cons.2 ⟨fun y hy => ?_, h⟩
      rcases List.mem_cons.1 hy with rfl | hy
      · exact Nat.le_of_lt hlt
      · exact Nat.le_trans (Nat.le_of_lt hlt) (h1 y hy)
    · rename_i hlt
      refine List.pairwise_cons.2 ⟨fun y hy => ?_, ins_sorted u r h2⟩
      rcases List.mem_cons.1 ((ins_perm u r).mem_iff.1 hy) with rfl | hy
      · exact Nat.le_of_not_lt hlt
      · exact h1 y hy
theorem sort_fold : ∀ (l acc : List Ub), acc.Pairwise lessU → (l.foldl (fun acc u => insU u acc) acc).Perm (l ++ acc) ∧ (l.foldl (fun acc u => insU u acc) acc).Pairwise lessU
  | [], acc, h => ⟨List.Perm.refl _, h⟩
  | u :: r, acc, h => by
    obtain ⟨h1, h2⟩ := sort_fold r (insU u acc) (ins_sorted u acc h)
    refine ⟨h1.trans ?_, h2⟩
    exact ((ins_perm u acc).append_left r).trans List.perm_middle
theorem sortUs_perm (l : List Ub) : (sortUs l).Perm l := by
  have := (sort_fold l [] List.Pairwise.nil).1
  rwa [List.append_nil] at this
theorem sortUs_sorted (l : List Ub) : (sortUs l).Pairwise lessU := (sort_fold l [] List.Pairwise.nil).2
theorem sortUs_only {l l' : List Ub} (hi : ∀ a ∈ l, ∀ b ∈ l, a.txg = b.txg → a = b) (hp : l'.Perm l) (hs : l'.Pairwise lessU) : l' = sortUs l := by
  refine List.Perm.eq_of_pairwise (le := lessU) (fun a b ha hb h1 h2 => ?_) hs (sortUs_sorted l) (hp.trans (sortUs_perm l).symm)
  exact hi a (hp.mem_iff.1 ha) b ((sortUs_perm l).mem_iff.1 hb) (Nat.le_antisymm h1 h2)
theorem sortUs_snoc (l : List Ub) (u : Ub) : sortUs (l ++ [u]) = insU u (sortUs l) := by simp [sortUs]
end Go.Proofs.Ytegcknloemgndaa
