
/- Sectors as cells; what a step of the world leaves alone (by the blocks that it may turn); a block of which a stretch is written. No function of the program. -/
import Derived.Test.YtgbghmgipnphkaaG
import Derived.ChangeKeysEq
import Derived.Deep.MidRow
import Derived.Deep.AppendLies
set_option maxRecDepth 10000
namespace Go.Proofs.Ytgbghmgipnphkaa
open Go.RowKit

structure Sec where
  l : List UInt8
  h : l.length = 128
theorem Sec.eq : ∀ {s t : Sec}, s.l = t.l → s = t
  | ⟨_, _⟩, ⟨_, _⟩, rfl => rfl
def Sec.same (s t : Sec) : Bool := decide (s.l = t.l)
theorem Sec.same_iff {s t : Sec} : s.same t = true ↔ s = t := by
  unfold Sec.same
  rw [decide_eq_true_iff]
  exact ⟨Sec.eq, fun h => by rw [h]⟩
theorem Sec.same_self (s : Sec) : s.same s = true := Sec.same_iff.2 rfl
def Sec.cs (s : Sec) : List Value := bys s.l
theorem Sec.cs_len (s : Sec) : s.cs.length = 128 := by rw [Sec.cs, bys_len, s.h]
theorem Sec.one (s : Sec) : ∀ u ∈ s.cs, u.oneCell' = true := bys_one
theorem Sec.at_ (s : Sec) (j : Nat) (h : j < 128) : s.cs[j]? = some (.int .u8 ((s.l[j]'(by rw [s.h]; exact h)).toNat : Int)) := bys_at s.l j (by rw [s.h]; exact h)
def zsec : Sec := ⟨List.replicate 128 0, List.length_replicate ..⟩

def flat (l : List Sec) : List Value := l.flatMap Sec.cs
theorem flat_len : ∀ l : List Sec, (flat l).length = l.length * 128
  | [] => rfl
  | s :: r => by
    have := flat_len r
    simp only [flat, List.flatMap_cons, List.length_append, Sec.cs_len, List.length_cons] at this ⊢
    omega
theorem flat_at : ∀ (l : List Sec) (i : Nat) (h : i < l.length) (j : Nat), j < 128 → (flat l)[i * 128 + j]? = (l[i].cs)[j]?
  | s :: r, 0, _, j, hj => by
    simp only [flat, List.flatMap_cons, Nat.zero_mul, Nat.zero_add, List.getElem_cons_zero]
    rw [List.getElem?_append_left (by rw [Sec.cs_len]; exact hj)]
  | s :: r, i + 1, h, j, hj => by
    have := flat_at r i (by simpa using h) j hj
    simp only [flat, List.flatMap_cons, List.getElem_cons_succ] at this ⊢
    rw [List.getElem?_append_right (by rw [Sec.cs_len]; omega), Sec.cs_len, show (i + 1) * 128 + j - 128 = i * 128 + j by omega]
    exact this
theorem flat_one (l : List Sec) : ∀ u ∈ flat l, u.oneCell' = true := by
  intro u hu
  simp only [flat, List.mem_flatMap] at hu
  obtain ⟨s, _, hs⟩ := hu
  exact s.one u hs
theorem flat_snoc (l : List Sec) (s : Sec) : flat (l ++ [s]) = flat l ++ s.cs := by simp [flat]

/-- A pending write's cells. -/
def wcs (p : Nat × Sec) : List Value := .int .i64 (p.1 : Int) :: p.2.cs
theorem wcs_len (p : Nat × Sec) : (wcs p).length = 129 := by simp [wcs, Sec.cs_len]
theorem wcs_one (p : Nat × Sec) : ∀ u ∈ wcs p, u.oneCell' = true := by
  intro u hu
  simp only [wcs, List.mem_cons] at hu
  rcases hu with rfl | hu
  · rfl
  · exact p.2.one u hu
def flatW (l : List (Nat × Sec)) : List Value := l.flatMap wcs
theorem flatW_len : ∀ l : List (Nat × Sec), (flatW l).length = l.length * 129
  | [] => rfl
  | s :: r => by
    have := flatW_len r
    simp only [flatW, List.flatMap_cons, List.length_append, wcs_len, List.length_cons] at this ⊢
    omega
theorem flatW_at : ∀ (l : List (Nat × Sec)) (i : Nat) (h : i < l.length) (j : Nat), j < 129 → (flatW l)[i * 129 + j]? = (wcs l[i])[j]?
  | s :: r, 0, _, j, hj => by
    simp only [flatW, List.flatMap_cons, Nat.zero_mul, Nat.zero_add, List.getElem_cons_zero]
    rw [List.getElem?_append_left (by rw [wcs_len]; exact hj)]
  | s :: r, i + 1, h, j, hj => by
    have := flatW_at r i (by simpa using h) j hj
    simp only [flatW, List.flatMap_cons, List.getElem_cons_succ] at this ⊢
    rw [List.getElem?_append_right (by rw [wcs_len]; omega), wcs_len, show (i + 1) * 129 + j - 129 = i * 129 + j by omega]
    exact this
theorem flatW_snoc (l : List (Nat × Sec)) (p : Nat × Sec) : flatW (l ++ [p]) = flatW l ++ wcs p := by simp [flatW]

/-- What a step of the world leaves alone: all blocks that were there but those of O. -/
structure Chg (w w' : World) (O : Nat → Prop) : Prop where
  os : w'.os = w.os
  tape : w'.tape = w.tape
  output : w'.output = w.output
  size : w.heap.size ≤ w'.heap.size
  block : ∀ k, k < w.heap.size → ¬ O k → w'.heap[k]? = w.heap[k]?
section
variable {w w' w'' : World} {O O' : Nat → Prop}
theorem Chg.refl (w : World) (O : Nat → Prop) : Chg w w O := ⟨rfl, rfl, rfl, Nat.le_refl _, fun _ _ _ => rfl⟩
theorem Chg.mono (h : Chg w w' O) (hO : ∀ k, k < w.heap.size → O k → O' k) : Chg w w' O' := ⟨h.os, h.tape, h.output, h.size, fun k hk hn => h.block k hk fun ho => hn (hO k hk ho)⟩
theorem Chg.trans (h : Chg w w' O) (k : Chg w' w'' O') (hO : ∀ k, k < w.heap.size → O' k → O k) : Chg w w'' O :=
  ⟨k.os.trans h.os, k.tape.trans h.tape, k.output.trans h.output, Nat.le_trans h.size k.size, fun j hj hn => (k.block j (Nat.lt_of_lt_of_le hj h.size) fun ho => hn (hO j hj ho)).trans (h.block j hj hn)⟩
theorem Chg.drew (h : Chg w w' O) : Chg w w'.drew O := ⟨h.os, h.tape, h.output, h.size, h.block⟩
theorem Chg.alloc (h : Chg w w' O) (o : Obj) : Chg w (w'.alloc o) O :=
  ⟨h.os, h.tape, h.output, by simp; exact Nat.le_succ_of_le h.size, fun k hk hn => (Below.heap_alloc w' o k (Nat.lt_of_lt_of_le hk h.size)).trans (h.block k hk hn)⟩
theorem Chg.setCell (h : Chg w w' O) {p : Addr} (hp : O p.block ∨ w.heap.size ≤ p.block) (u : Value) : Chg w (w'.setCell p u) O :=
  ⟨h.os, h.tape, h.output, by simp [World.setCell]; exact h.size, fun k hk hn => (Below.heap_setCell w' p u k (fun e => by
    subst e
    rcases hp with hp | hp
    · exact hn hp
    · omega)).trans (h.block k hk hn)⟩
theorem Chg.setCells {b : Nat} (hp : O b ∨ w.heap.size ≤ b) : ∀ (vs : List Value) (o : Nat) {w' : World}, Chg w w' O → Chg w (w'.setCells b o vs) O
  | [], _, _, h => h
  | v :: r, o, _, h => Chg.setCells hp r (o + 1) (h.setCell (p := ⟨b, o, none⟩) hp v)
theorem Chg.setRow (h : Chg w w' O) {g : Nat} (hp : O g ∨ w.heap.size ≤ g) (cs : Array Value) : Chg w (w'.setRow g cs) O :=
  ⟨h.os, h.tape, h.output, by simp [World.setRow]; exact h.size, fun k hk hn => (setRow_other w' g k cs (fun e => by
    subst e
    rcases hp with hp | hp
    · exact hn hp
    · omega)).trans (h.block k hk hn)⟩
theorem Chg.grown {row : Option Nat} (h : Chg w w' O) (hg : w'.grownBy w'' row) (hr : ∀ k, row = some k → O k ∨ w.heap.size ≤ k) : Chg w w'' O :=
  ⟨hg.os.trans h.os, hg.tape.trans h.tape, hg.output.trans h.output, Nat.le_trans h.size hg.size, fun k hk hn => (hg.block k (Nat.lt_of_lt_of_le hk h.size) (fun e => by
    rcases hr k e.symm with hp | hp
    · exact hn hp
    · omega)).trans (h.block k hk hn)⟩
theorem Chg.below {B : Nat} (h : Chg w w' O) (hO : ∀ k, O k → B ≤ k) (hB : B ≤ w.heap.size) : Below B w w' :=
  ⟨h.os, h.tape, h.output, h.size, fun k hk => h.block k (Nat.lt_of_lt_of_le hk hB) fun ho => by have := hO k ho; omega⟩
theorem Chg.of_below (h : Below w.heap.size w w') : Chg w w' O := ⟨h.os, h.tape, h.output, h.size, fun k hk _ => h.block k hk⟩
theorem Chg.cell (h : Chg w w' O) {b : Nat} (hb : b < w.heap.size) (hn : ¬ O b) (o : Nat) : w'.cell? ⟨b, o, none⟩ = w.cell? ⟨b, o, none⟩ := World.cell?_of_block (w := w) (a := ⟨b, o, none⟩) (h.block b hb hn)
theorem Blk.chg {g : Nat} {t : TypeId} {cs : Array Value} (h : Blk w g t cs) (c : Chg w w' O) (hn : ¬ O g) : Blk w' g t cs := (c.block g h.lt hn).trans h
theorem own_chg {base e size n : Nat} {v : Value} {xs : List Value} (h : w.ownsRow base e size v n xs) (c : Chg w w' O) (hn : ∀ g, v.ownBlock = some g → ¬ O g) : w'.ownsRow base e size v n xs := by
  refine ⟨h.1, ?_⟩
  rcases h.2 with h0 | ⟨g, cap, cur, rfl, hbg, hg, hrest⟩
  · exact .inl h0
  · exact .inr ⟨g, cap, cur, rfl, hbg, (c.block g (h.lt g rfl).2 (hn g rfl)).trans hg, hrest⟩
end

theorem flat_set (l : List Sec) (i : Nat) (s : Sec) (hi : i < l.length) (k : Nat) :
    (flat (l.set i s)).toArray[k]? = if i * 128 ≤ k ∧ k < i * 128 + s.cs.length then s.cs[k - i * 128]? else (flat l).toArray[k]? := by
  rw [Sec.cs_len]
  by_cases hk : k < l.length * 128
  · have h1 : k = k / 128 * 128 + k % 128 := by omega
    have h2 : k / 128 < l.length := by omega
    have h3 : k % 128 < 128 := by omega
    generalize k / 128 = q at *
    generalize k % 128 = r at *
    subst h1
    rw [List.getElem?_toArray, List.getElem?_toArray, flat_at _ q (by simpa using h2) r h3, flat_at _ q h2 r h3]
    by_cases hq : q = i
    · subst hq
      rw [if_pos (by omega), List.getElem_set_self, show q * 128 + r - q * 128 = r by omega]
    · rw [if_neg (by omega), List.getElem_set_ne (by omega)]
  · rw [if_neg (by omega), List.getElem?_toArray, List.getElem?_toArray, List.getElem?_eq_none (by rw [flat_len, List.length_set]; omega), List.getElem?_eq_none (by rw [flat_len]; omega)]
/-- A sector of a row of sectors is written. -/
theorem Blk.setSec {w : World} {g : Nat} {t : TypeId} {l : List Sec} (h : Blk w g t (flat l).toArray) (i : Nat) (s : Sec) (hi : i < l.length) : Blk (w.setCells g (i * 128) s.cs) g t (flat (l.set i s)).toArray :=
  h.setTo _ _ (by rw [Sec.cs_len, List.size_toArray, flat_len]; omega) (flat_set l i s hi)
theorem Blk.sec {w : World} {g : Nat} {t : TypeId} {l : List Sec} (h : Blk w g t (flat l).toArray) (i : Nat) (hi : i < l.length) : w.rangeAt g (i * 128) l[i].cs :=
  h.range _ _ fun j v hj => by
    rw [List.getElem?_toArray, flat_at l i hi j (by have := (List.getElem?_eq_some_iff.1 hj).1; rwa [Sec.cs_len] at this)]
    exact hj
theorem Blk.secThere {w : World} {g : Nat} {t : TypeId} {l : List Sec} (h : Blk w g t (flat l).toArray) (i : Nat) (hi : i < l.length) : w.there g (i * 128) 128 :=
  h.there _ _ (by rw [List.size_toArray, flat_len]; omega)
theorem Blk.row {w : World} {g : Nat} {t : TypeId} {cs : Array Value} (h : Blk w g t cs) (l : List Value) : Blk (w.setRow g l.toArray) g t l.toArray := setRow_heap w g cs _ t _ h
theorem Blk.new2 (w : World) (t : TypeId) (cs : Array Value) (l : List Value) : Blk ((w.alloc (.cells cs t)).setRow w.heap.size l.toArray) w.heap.size t l.toArray := (Blk.new w t cs).row l
theorem own_sec {w : World} {base g cap n : Nat} {e : TypeId} {l : List (Nat × Sec)} (h : w.ownsRow base e 129 (.slice (some ⟨g, 0, none⟩) n cap) n (flatW l)) (i : Nat) (hi : i < l.length) : w.rangeAt g (i * 129) (wcs l[i]) := fun j v hj => by
  have hj' : j < 129 := by have := (List.getElem?_eq_some_iff.1 hj).1; rwa [wcs_len] at this
  have hn : l.length = n := by have := h.1; rw [flatW_len] at this; omega
  rw [h.cellAt _ (by omega), flatW_at l i hi j hj']
  exact hj
theorem own_there {w : World} {base g cap n size : Nat} {e : TypeId} {xs : List Value} (h : w.ownsRow base e size (.slice (some ⟨g, 0, none⟩) n cap) n xs) (o m : Nat) (hm : o + m ≤ n * size) : w.there g o m := fun j hj =>
  ⟨by rw [h.cellAt _ (by omega)]; simp [h.1]; omega, h.frozenAt _⟩
theorem own_setCells {base g cap n size : Nat} {e : TypeId} : ∀ (vs : List Value) (o : Nat) {w : World} {xs : List Value}, w.ownsRow base e size (.slice (some ⟨g, 0, none⟩) n cap) n xs → o + vs.length ≤ n * size →
    ∃ xs' : List Value, (w.setCells g o vs).ownsRow base e size (.slice (some ⟨g, 0, none⟩) n cap) n xs' ∧ ∀ k, xs'[k]? = if o ≤ k ∧ k < o + vs.length then vs[k - o]? else xs[k]?
  | [], o, w, xs, h, _ => ⟨xs, h, fun k => by rw [if_neg (by simp)]⟩
  | v :: r, o, w, xs, h, hl => by
    simp only [List.length_cons] at hl
    obtain ⟨xs', h1, h3⟩ := own_setCells r (o + 1) (h.stored o v).1 (by omega)
    refine ⟨xs', h1, fun k => ?_⟩
    have hlen := h.1
    rw [h3 k]
    simp only [List.length_cons]
    rcases Nat.lt_trichotomy k o with hk | hk | hk
    · rw [if_neg (by omega), if_neg (by omega), List.getElem?_set_ne (by omega)]
    · subst hk
      rw [if_neg (by omega), if_pos (by omega)]
      simp only [Nat.sub_self, List.getElem?_cons_zero]
      rw [List.getElem?_set_self (by omega)]
    · by_cases hk2 : k < o + (r.length + 1)
      · rw [if_pos (by omega), if_pos (by omega), show k - o = (k - (o + 1)) + 1 by omega, List.getElem?_cons_succ]
      · rw [if_neg (by omega), if_neg (by omega), List.getElem?_set_ne (by omega)]
end Go.Proofs.Ytgbghmgipnphkaa
