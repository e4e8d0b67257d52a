import Derived.Test.YtddhacmaogaocaaN3

/- A map of sectors in memory: an array of 1024 states in a block of its own; how the model's kinds are spelt there. -/
import Derived.Deep.WholeRow
import Derived.Deep.Cut
set_option maxRecDepth 10000
set_option maxRecDepth 10000
namespace Go.Proofs.Ytddhacmaogaocaa
open Go.RowKit

/-- An array of 1024 small numbers. -/
def narr (f : Nat → Nat) : Array Value := (Array.range 1024).map fun n : Nat => .int .u8 ((f n : Nat) : Int)
theorem narr_size (f : Nat → Nat) : (narr f).size = 1024 := by simp [narr]
theorem narr_at (f : Nat → Nat) (k : Nat) (hk : k < 1024) : (narr f)[k]? = some (.int .u8 ((f k : Nat) : Int)) := by simp [narr, hk]
theorem narr_congr {f g : Nat → Nat} (h : ∀ n, n < 1024 → f n = g n) : narr f = narr g := by
  unfold narr
  refine Array.map_congr_left fun n hn => ?_
  rw [Array.mem_range] at hn
  rw [h n hn]
theorem narr_set {f g : Nat → Nat} {b : Nat} (k : Nat) (hk : k < 1024) (h1 : g k = b) (h : ∀ n, n < 1024 → n ≠ k → f n = g n) : (narr f).setIfInBounds k (.int .u8 (b : Int)) = narr g := by
  refine Array.ext_getElem? fun i => ?_
  rw [Array.getElem?_setIfInBounds]
  rcases Nat.lt_or_ge i 1024 with hi | hi
  · rw [narr_at g i hi, narr_at f i hi]
    split
    · rename_i e; subst e; rw [h1]; simp [narr_size, hk]
    · rename_i e; rw [h i hi (by omega)]
  · rw [if_neg (by omega)]
    simp [narr, hi]
theorem narr_one (f : Nat → Nat) : (narr f).all (·.oneCell') = true := by
  rw [Array.all_eq_true_iff_forall_mem]
  intro v hv
  simp only [narr, Array.mem_map] at hv
  obtain ⟨n, _, rfl⟩ := hv
  rfl
def zerosN : Array Value := Array.replicate 1024 (.int .u8 0)
theorem zerosN_eq : zerosN = narr fun _ => 0 := by
  refine Array.ext ?_ fun i h2 h3 => ?_
  · simp [zerosN, narr]
  · simp [zerosN, narr]
theorem buildMap : ∀ w, (Instr.build 76 #[]).run Try.prog w = .ok (.agg zerosN) w := by
  intro w
  exact run_build w _ _ _ (by kernel_rfl)
theorem zeroMap : ∀ w, Sem.run Try.prog (zeroValue 76) w = .ok (.agg zerosN) w := by
  intro w
  have h : (Try.prog.info? 76).map (fun i => i.zero) = some (some (.agg zerosN)) := by kernel_rfl
  obtain ⟨i, hi, hz⟩ := Option.map_eq_some_iff.1 h
  simp [zeroValue, typeInfo, hi, hz]
theorem sizeMap : (Try.prog.info? 76).map (·.size) = some 1024 := by kernel_rfl
theorem sizeMap' (f : Nat → Nat) : (Try.prog.info? 76).map (·.size) = some (narr f).size := by rw [narr_size]; exact sizeMap
theorem sizeIs : (Try.prog.info? 74).map (·.size) = some 1024 := by kernel_rfl
theorem sizeIs' (f : Nat → Nat) : (Try.prog.info? 74).map (·.size) = some (narr f).size := by rw [narr_size]; exact sizeIs

/-- The program's number of what a sector is. -/
def ncodeF (m : Mp) (i : Nat) : Nat := if 4 ≤ i ∧ i < m.tot then m.st i + 1 else 0
theorem codeF_is {m : Mp} {i s : Nat} : ncodeF m i = s + 1 ↔ m.is s i = true := by
  rw [Mp.is_iff]
  unfold ncodeF
  by_cases h : 4 ≤ i ∧ i < m.tot
  · rw [if_pos h]
    constructor
    · intro e; exact ⟨h.1, h.2, by omega⟩
    · intro e; omega
  · rw [if_neg h]
    constructor
    · intro e; omega
    · intro e; exact absurd ⟨e.1, e.2.1⟩ h
theorem codeF_le {m : Mp} (h2 : ∀ i, m.st i ≤ 2) (i : Nat) : ncodeF m i ≤ 3 := by
  have := h2 i
  unfold ncodeF
  split <;> omega
theorem codeF_put {m : Mp} {i s j : Nat} (hi : 4 ≤ i ∧ i < m.tot) : ncodeF (m.put i s) j = if j = i then s + 1 else ncodeF m j := by
  by_cases hj : j = i
  · subst hj
    rw [if_pos rfl]
    unfold ncodeF Mp.put
    simp only [if_true]
    rw [if_pos hi]
  · rw [if_neg hj]
    unfold ncodeF Mp.put
    simp only [if_neg hj]
theorem codeF_commit {m : Mp} {j : Nat} : ncodeF m.commit j = if ncodeF m j = 3 then 1 else ncodeF m j := by
  unfold ncodeF Mp.commit
  by_cases h : 4 ≤ j ∧ j < m.tot
  · simp only [if_pos h]
    by_cases h2 : m.st j = 2
    · simp [h2]
    · rw [if_neg h2, if_neg (by omega)]
  · simp only [if_neg h]
    rw [if_neg (by omega)]
/-- The block g of w is a map that is m. -/
structure MapAt (w : World) (O : Nat → Prop) (g : Nat) (m : Mp) : Prop where
  blk : Blk w g 76 (narr (ncodeF m))
  own : ∀ k, O k ↔ k = g
  tot : m.tot ≤ 1024
  two : ∀ i, m.st i ≤ 2
section
variable {w w' : World} {O O2 : Nat → Prop} {g : Nat} {m : Mp}
theorem MapAt.foot (h : MapAt w O g m) (k : Nat) (hk : O k) : k < w.heap.size := by
  rw [(h.own k).1 hk]
  exact h.blk.lt
theorem MapAt.stay (h : MapAt w O g m) (c : Chg w w' O2) (hO : ∀ k, O k → ¬ O2 k) : MapAt w' O g m := ⟨h.blk.chg c (hO g ((h.own g).2 rfl)), h.own, h.tot, h.two⟩
theorem MapAt.far (h : MapAt w O g m) (hb : Below w.heap.size w w') : MapAt w' O g m := ⟨h.blk.below hb h.blk.lt, h.own, h.tot, h.two⟩
/-- Nothing that was there has turned. -/
theorem MapAt.quiet (h : MapAt w O g m) (hb : Below w.heap.size w w') : MapAt w' O g m ∧ Step w w' O O := ⟨h.far hb, Chg.of_below hb, fun _ hk => .inl hk⟩
theorem step_refl (w : World) (O : Nat → Prop) : Step w w O O := ⟨Chg.refl w O, fun _ hk => .inl hk⟩
end
end Go.Proofs.Ytddhacmaogaocaa
