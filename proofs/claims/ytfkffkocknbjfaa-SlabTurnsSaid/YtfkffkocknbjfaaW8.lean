
/- Walks: a set's numbers, gone through by a range function. -/
import Derived.Test.YtfkffkocknbjfaaW7
import Derived.RangeFuncNested
import Derived.RangeFuncBound
import Derived.RangeFuncCalls
import Derived.RangeFuncLeaves
import Derived.RangeFuncBox
import Derived.Shelf.Abstract
import Derived.Shelf.RegionOpen
import Derived.OwnWalkIn
import Derived.TacticsInMore
import Derived.LoopNIn
import Derived.LoopIn
set_option maxRecDepth 10000
namespace Go.Proofs.Ytfkffkocknbjfaa
open Go.RowKit Go.Shelf
attribute [local go_sem] Oper.semAt_some

/-- The numbers of a list of spans, in its order. -/
def runF (s : Int) (k : Nat) : List Int := (List.range k).map fun (j : Nat) => s + j
def spF (l : List Sp) : List Int := l.flatMap fun p => runF p.1 p.2.toNat
theorem spF_app (a b : List Sp) : spF (a ++ b) = spF a ++ spF b := by simp [spF]
theorem runF_succ (s : Int) (k : Nat) : runF s (k + 1) = runF s k ++ [s + k] := by simp [runF, List.range_succ]
theorem spF_take {l : List Sp} {k : Nat} (h : k < l.length) : spF (l.take (k + 1)) = spF (l.take k) ++ runF l[k].1 l[k].2.toNat := by
  rw [List.take_succ_eq_append_getElem h, spF_app]; simp [spF]
theorem spF_pre {l : List Sp} {k : Nat} (h : k < l.length) {j : Nat} (hj : j ≤ l[k].2.toNat) : spF (l.take k) ++ runF l[k].1 j <+: spF l := by
  have h1 : spF l = spF (l.take (k + 1)) ++ spF (l.drop (k + 1)) := by rw [← spF_app, List.take_append_drop]
  rw [h1, spF_take h]
  have h2 : runF l[k].1 l[k].2.toNat = runF l[k].1 j ++ (runF l[k].1 l[k].2.toNat).drop j := by
    conv => lhs; rw [← List.take_append_drop j (runF l[k].1 l[k].2.toNat)]
    congr 1
    simp only [runF, ← List.map_take, List.take_range]
    rw [Nat.min_eq_left hj]
  rw [h2]
  exact ⟨_, by simp only [List.append_assoc]; rfl⟩

/-- Blocks of spans stay, and what lies below n0. -/
def KeepSp (n0 : Nat) (W W' : World) : Prop := Below n0 W W' ∧ ∀ g cs, Blk W g 56 cs → Blk W' g 56 cs
theorem grown_of_below {W W' : World} (hb : Below W.heap.size W W') : W.grownBy W' none := ⟨hb.os, hb.tape, hb.output, hb.size, fun i hi _ => hb.block i hi⟩

theorem keepSp_t {n0 : Nat} {X Y Z : World} (h : KeepSp n0 X Y) (k : KeepSp n0 Y Z) : KeepSp n0 X Z := ⟨h.1.trans k.1, fun g cs hg => k.2 g cs (h.2 g cs hg)⟩
theorem keepSp_b {n0 : Nat} {w : World} (hn0 : n0 ≤ w.heap.size) : ∀ (W : World) (l : Nat) (o o' : Obj), w.heap.size ≤ l → W.heap[l]? = some o → o.isCells = false → o.isWalk = false → KeepSp n0 W (W.putObj l o') := by
  intro W l o o' hl ho hcells hwalk
  refine ⟨belowK_b (w := w) hn0 W l o o' hl ho hcells hwalk, fun g cs hg => ?_⟩
  have hne : g ≠ l := by
    rintro rfl
    unfold Blk at hg
    rw [hg] at ho
    injection ho with ho
    subst ho
    simp [Obj.isCells] at hcells
  exact (World.putObj_heap_other hne).trans hg
theorem keepSp_refl (n0 : Nat) (W : World) : KeepSp n0 W W := ⟨Below.refl _ _, fun _ _ h => h⟩
theorem keepSp_of {n0 : Nat} {W W' : World} (hb : Below n0 W W') (h : ∀ g, g < W.heap.size → (∃ cs, Blk W g 56 cs) → W'.heap[g]? = W.heap[g]?) : KeepSp n0 W W' :=
  ⟨hb, fun g cs hg => (h g hg.lt ⟨cs, hg⟩).trans hg⟩

theorem own_blk_ne {w : World} {g base e t size n : Nat} {v : Value} {xs : List Value} {cs : Array Value} (h : w.ownsRow base e size v n xs) (hg : Blk w g t cs) (hne : e ≠ t) : some g ≠ v.ownBlock := by
  rcases h.2 with ⟨rfl, _⟩ | ⟨g', cap, cur, rfl, _, hh, _⟩
  · simp [Value.ownBlock]
  · intro he
    have : g = g' := by simpa [Value.ownBlock] using he
    subst this
    unfold Blk at hg
    rw [hh] at hg
    injection hg with hg
    injection hg with _ ht
    exact hne ht
theorem blk_grown {w w' : World} {g t : Nat} {cs : Array Value} {row : Option Nat} (h : Blk w g t cs) (hb : w.grownBy w' row) (hg : some g ≠ row) : Blk w' g t cs := (hb.block g h.lt hg).trans h
theorem blk_alloc {w : World} {g t : Nat} {cs : Array Value} (h : Blk w g t cs) (o : Obj) : Blk (w.alloc o) g t cs := (Below.heap_alloc w o g h.lt).trans h

theorem boxed_kept_own {W W' : World} {row : Option Nat} {B : Nat} {t : TypeId} {v : Value} (h : Boxed W B t v) (hg : W.grownBy W' row) (hr : ∀ r, row = some r → ∃ o : Obj, W.heap[r]? = some o ∧ o.isCells = false) : Boxed W' B t v :=
  h.kept hg fun e => by
    obtain ⟨o, ho, hc⟩ := hr B e.symm
    unfold Boxed at h
    rw [h] at ho
    cases ho
    simp [Obj.isCells] at hc
def HasAt (n0 : Nat) (W : World) (x : Int) (b : Bool) : Prop := Boxed W n0 3 (.int .i64 x) ∧ Boxed W (n0 + 1) 4 (.bool b)
theorem HasAt.own {n0 : Nat} {W W' : World} {x : Int} {b : Bool} {row : Option Nat} (h : HasAt n0 W x b) (hg : W.grownBy W' row) (hr : ∀ r, row = some r → ∃ o : Obj, W.heap[r]? = some o ∧ o.isCells = false) : HasAt n0 W' x b :=
  ⟨boxed_kept_own h.1 hg hr, boxed_kept_own h.2 hg hr⟩

/-! The numbers of a set rise; they are what is in it. -/
theorem inc_ext : ∀ {l m : List Int}, l.Pairwise (· < ·) → m.Pairwise (· < ·) → (∀ x, x ∈ l ↔ x ∈ m) → l = m
  | [], [], _, _, _ => rfl
  | [], y :: m, _, _, h => absurd ((h y).2 (by simp)) (by simp)
  | x :: l, [], _, _, h => absurd ((h x).1 (by simp)) (by simp)
  | x :: l, y :: m, hl, hm, h => by
    rw [List.pairwise_cons] at hl hm
    have e : x = y := by
      have a := (h x).1 (by simp)
      have b := (h y).2 (by simp)
      rcases List.mem_cons.1 a with a | a
      · exact a
      · rcases List.mem_cons.1 b with b | b
        · exact b.symm
        · have := hl.1 y b; have := hm.1 x a; omega
    subst e
    congr 1
    refine inc_ext hl.2 hm.2 fun z => ?_
    constructor
    · intro hz
      have := hl.1 z hz
      rcases List.mem_cons.1 ((h z).1 (by simp [hz])) with e | e
      · omega
      · exact e
    · intro hz
      have := hm.1 z hz
      rcases List.mem_cons.1 ((h z).2 (by simp [hz])) with e | e
      · omega
      · exact e
theorem mem_runF {s x : Int} {k : Nat} : x ∈ runF s k ↔ s ≤ x ∧ x < s + k := by
  simp only [runF, List.mem_map, List.mem_range]
  constructor
  · rintro ⟨j, hj, rfl⟩; omega
  · rintro ⟨h1, h2⟩; exact ⟨(x - s).toNat, by omega, by omega⟩
theorem mem_spF {l : List Sp} {f x : Int} (hr : rightF f l = true) : x ∈ spF l ↔ memF l x = true := by
  rw [mem_iff]
  simp only [spF, List.mem_flatMap, mem_runF]
  constructor
  · rintro ⟨p, hp, h1, h2⟩
    have := right_mem hr p hp
    exact ⟨p, hp, by omega, by omega⟩
  · rintro ⟨p, hp, h1, h2⟩
    have := right_mem hr p hp
    exact ⟨p, hp, by omega, by omega⟩
theorem runF_inc (s : Int) (k : Nat) : (runF s k).Pairwise (· < ·) := by
  unfold runF
  rw [List.pairwise_map]
  exact List.pairwise_lt_range.imp fun h => by omega
theorem spF_inc : ∀ {l : List Sp} {f : Int}, rightF f l = true → (spF l).Pairwise (· < ·)
  | [], _, _ => List.Pairwise.nil
  | (s, n) :: r, f, h => by
    obtain ⟨h1, h2, h3, h4⟩ := right_cons h
    show (runF s n.toNat ++ spF r).Pairwise _
    rw [List.pairwise_append]
    refine ⟨runF_inc _ _, spF_inc h4, fun a ha b hb => ?_⟩
    rw [mem_runF] at ha
    have := mem_lo h4 ((mem_spF h4).1 hb)
    omega
theorem mem_numsTo {S : Int → Bool} {x : Int} : ∀ {k : Nat}, x ∈ numsTo S k ↔ 0 ≤ x ∧ x < k ∧ S x = true
  | 0 => by simp [numsTo]; omega
  | k + 1 => by
    simp only [numsTo]
    split
    · rename_i h
      rw [List.mem_append, mem_numsTo (k := k), List.mem_singleton]
      constructor
      · rintro (⟨a, b, c⟩ | rfl)
        · exact ⟨a, by omega, c⟩
        · exact ⟨by omega, by omega, h⟩
      · rintro ⟨a, b, c⟩
        by_cases e : x = k
        · exact .inr e
        · exact .inl ⟨a, by omega, c⟩
    · rename_i h
      rw [mem_numsTo (k := k)]
      constructor
      · rintro ⟨a, b, c⟩; exact ⟨a, by omega, c⟩
      · rintro ⟨a, b, c⟩
        refine ⟨a, ?_, c⟩
        by_cases e : x = k
        · subst e; exact absurd c h
        · omega
theorem numsTo_inc (S : Int → Bool) : ∀ k, (numsTo S k).Pairwise (· < ·)
  | 0 => List.Pairwise.nil
  | k + 1 => by
    simp only [numsTo]
    split
    · rw [List.pairwise_append]
      exact ⟨numsTo_inc S k, by simp, fun a ha b hb => by
        have := (mem_numsTo.1 ha).2.1
        rw [List.mem_singleton] at hb
        omega⟩
    · exact numsTo_inc S k
theorem spF_nums {l : List Sp} (hr : rightF 0 l = true) : spF l = numsTo (memF l) 4096 :=
  inc_ext (spF_inc hr) (numsTo_inc _ _) fun x => by
    rw [mem_spF hr, mem_numsTo]
    constructor
    · intro h; have := mem_lo hr h; exact ⟨by omega, by omega, h⟩
    · rintro ⟨_, _, h⟩; exact h
theorem spF_len {l : List Sp} (hr : rightF 0 l = true) : (spF l).length ≤ 4096 := by rw [spF_nums hr]; exact numsTo_len _ _

end Go.Proofs.Ytfkffkocknbjfaa
