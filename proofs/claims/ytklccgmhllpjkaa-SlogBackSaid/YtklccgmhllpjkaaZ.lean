/- What is generic of the texts on devices and ubers: what a step of the world may turn, blocks that are written in stretches. No function of the program, no type's number. Laid together by mkz.py. -/
import Derived.Test.YtklccgmhllpjkaaK
import Derived.ChangeKeysEq
import Derived.Deep.MidRow
import Derived.Deep.AppendLies
namespace Go.Proofs.Ytklccgmhllpjkaa
open Go.RowKit

theorem Below.setCells {B : Nat} {a : World} (b : Nat) (hB : B ≤ b) : ∀ (vs : List Value) (o : Nat) {w : World}, Below B a w → Below B a (w.setCells b o vs)
  | [], _, _, h => h
  | _ :: vs, o, _, h => Below.setCells b hB vs (o + 1) (h.setCell hB _)
theorem all_one {cs : List Value} (h : ∀ v ∈ cs, v.oneCell' = true) : cs.toArray.all (·.oneCell') = true := all_oneCell_toArray h

/-! ### Arrays and structs put together -/
/-- What a step of the world leaves alone: all blocks that were there but those of O. -/
structure Chg (w w' : World) (O : Nat → Prop) : Prop where
  os : w'.os = w.os
  tape : w'.tape = w.tape
  output : w'.output = w.output
  size : w.heap.size ≤ w'.heap.size
  block : ∀ k, k < w.heap.size → ¬ O k → w'.heap[k]? = w.heap[k]?
section
variable {w w' w'' : World} {O O' : Nat → Prop}
theorem Chg.refl (w : World) (O : Nat → Prop) : Chg w w O := ⟨rfl, rfl, rfl, Nat.le_refl _, fun _ _ _ => rfl⟩
theorem Chg.mono (h : Chg w w' O) (hO : ∀ k, k < w.heap.size → O k → O' k) : Chg w w' O' := ⟨h.os, h.tape, h.output, h.size, fun k hk hn => h.block k hk fun ho => hn (hO k hk ho)⟩
theorem Chg.trans (h : Chg w w' O) (k : Chg w' w'' O') (hO : ∀ k, k < w.heap.size → O' k → O k) : Chg w w'' O :=
  ⟨k.os.trans h.os, k.tape.trans h.tape, k.output.trans h.output, Nat.le_trans h.size k.size, fun j hj hn => (k.block j (Nat.lt_of_lt_of_le hj h.size) fun ho => hn (hO j hj ho)).trans (h.block j hj hn)⟩
theorem Chg.drew (h : Chg w w' O) : Chg w w'.drew O := ⟨h.os, h.tape, h.output, h.size, h.block⟩
theorem Chg.alloc (h : Chg w w' O) (o : Obj) : Chg w (w'.alloc o) O :=
  ⟨h.os, h.tape, h.output, by simp; exact Nat.le_succ_of_le h.size, fun k hk hn => (Below.heap_alloc w' o k (Nat.lt_of_lt_of_le hk h.size)).trans (h.block k hk hn)⟩
theorem Chg.setCell (h : Chg w w' O) {p : Addr} (hp : O p.block ∨ w.heap.size ≤ p.block) (u : Value) : Chg w (w'.setCell p u) O :=
  ⟨h.os, h.tape, h.output, by simp [World.setCell]; exact h.size, fun k hk hn => (Below.heap_setCell w' p u k (fun e => by
    subst e
    rcases hp with hp | hp
    · exact hn hp
    · omega)).trans (h.block k hk hn)⟩
theorem Chg.setCells {b : Nat} (hp : O b ∨ w.heap.size ≤ b) : ∀ (vs : List Value) (o : Nat) {w' : World}, Chg w w' O → Chg w (w'.setCells b o vs) O
  | [], _, _, h => h
  | v :: r, o, _, h => Chg.setCells hp r (o + 1) (h.setCell (p := ⟨b, o, none⟩) hp v)
theorem Chg.setRow (h : Chg w w' O) {g : Nat} (hp : O g ∨ w.heap.size ≤ g) (cs : Array Value) : Chg w (w'.setRow g cs) O :=
  ⟨h.os, h.tape, h.output, by simp [World.setRow]; exact h.size, fun k hk hn => (setRow_other w' g k cs (fun e => by
    subst e
    rcases hp with hp | hp
    · exact hn hp
    · omega)).trans (h.block k hk hn)⟩
theorem Chg.grown {row : Option Nat} (h : Chg w w' O) (hg : w'.grownBy w'' row) (hr : ∀ k, row = some k → O k ∨ w.heap.size ≤ k) : Chg w w'' O :=
  ⟨hg.os.trans h.os, hg.tape.trans h.tape, hg.output.trans h.output, Nat.le_trans h.size hg.size, fun k hk hn => (hg.block k (Nat.lt_of_lt_of_le hk h.size) (fun e => by
    rcases hr k e.symm with hp | hp
    · exact hn hp
    · omega)).trans (h.block k hk hn)⟩
theorem Chg.below {B : Nat} (h : Chg w w' O) (hO : ∀ k, O k → B ≤ k) (hB : B ≤ w.heap.size) : Below B w w' :=
  ⟨h.os, h.tape, h.output, h.size, fun k hk => h.block k (Nat.lt_of_lt_of_le hk hB) fun ho => by have := hO k ho; omega⟩
theorem Chg.of_below (h : Below w.heap.size w w') : Chg w w' O := ⟨h.os, h.tape, h.output, h.size, fun k hk _ => h.block k hk⟩
theorem Chg.cell (h : Chg w w' O) {b : Nat} (hb : b < w.heap.size) (hn : ¬ O b) (o : Nat) : w'.cell? ⟨b, o, none⟩ = w.cell? ⟨b, o, none⟩ := World.cell?_of_block (w := w) (a := ⟨b, o, none⟩) (h.block b hb hn)
theorem Blk.chg {g : Nat} {t : TypeId} {cs : Array Value} (h : Blk w g t cs) (c : Chg w w' O) (hn : ¬ O g) : Blk w' g t cs := (c.block g h.lt hn).trans h
theorem own_chg {base e size n : Nat} {v : Value} {xs : List Value} (h : w.ownsRow base e size v n xs) (c : Chg w w' O) (hn : ∀ g, v.ownBlock = some g → ¬ O g) : w'.ownsRow base e size v n xs := by
  refine ⟨h.1, ?_⟩
  rcases h.2 with h0 | ⟨g, cap, cur, rfl, hbg, hg, hrest⟩
  · exact .inl h0
  · exact .inr ⟨g, cap, cur, rfl, hbg, (c.block g (h.lt g rfl).2 (hn g rfl)).trans hg, hrest⟩
end
/-- A stretch of a block is written. -/
theorem Blk.setCells {g : Nat} {t : TypeId} : ∀ (vs : List Value) (o : Nat) {w : World} {cs : Array Value}, Blk w g t cs → o + vs.length ≤ cs.size →
    ∃ cs' : Array Value, Blk (w.setCells g o vs) g t cs' ∧ cs'.size = cs.size ∧ ∀ k, cs'[k]? = if o ≤ k ∧ k < o + vs.length then vs[k - o]? else cs[k]?
  | [], o, w, cs, h, _ => ⟨cs, h, rfl, fun k => by rw [if_neg (by simp)]⟩
  | v :: r, o, w, cs, h, hl => by
    simp only [List.length_cons] at hl
    obtain ⟨cs', h1, h2, h3⟩ := Blk.setCells r (o + 1) (h.set_ o v) (by simp; omega)
    refine ⟨cs', h1, by rw [h2]; simp, fun k => ?_⟩
    rw [h3 k]
    simp only [List.length_cons]
    rcases Nat.lt_trichotomy k o with hk | hk | hk
    · rw [if_neg (by omega), if_neg (by omega), Array.getElem?_setIfInBounds_ne (by omega)]
    · subst hk
      rw [if_neg (by omega), if_pos (by omega)]
      simp only [Nat.sub_self, List.getElem?_cons_zero]
      rw [Array.getElem?_setIfInBounds_self_of_lt (by omega)]
    · by_cases hk2 : k < o + (r.length + 1)
      · rw [if_pos (by omega), if_pos (by omega), show k - o = (k - (o + 1)) + 1 by omega, List.getElem?_cons_succ]
      · rw [if_neg (by omega), if_neg (by omega), Array.getElem?_setIfInBounds_ne (by omega)]
theorem Blk.setTo {w : World} {g : Nat} {t : TypeId} {cs cs' : Array Value} (h : Blk w g t cs) (o : Nat) (vs : List Value) (ho : o + vs.length ≤ cs.size)
    (hc : ∀ k, cs'[k]? = if o ≤ k ∧ k < o + vs.length then vs[k - o]? else cs[k]?) : Blk (w.setCells g o vs) g t cs' := by
  obtain ⟨c, h1, _, h3⟩ := Blk.setCells vs o h ho
  rw [show cs' = c from Array.ext_getElem? fun k => (hc k).trans (h3 k).symm]
  exact h1
theorem Blk.range {w : World} {g : Nat} {t : TypeId} {cs : Array Value} (h : Blk w g t cs) (o : Nat) (vs : List Value) (hv : ∀ j v, vs[j]? = some v → cs[o + j]? = some v) : w.rangeAt g o vs := fun j v hj => (h.cell (o + j)).trans (hv j v hj)
theorem Blk.there {w : World} {g : Nat} {t : TypeId} {cs : Array Value} (h : Blk w g t cs) (o n : Nat) (hn : o + n ≤ cs.size) : w.there g o n := fun j hj =>
  ⟨by rw [h.cell]; simp; omega, h.frozen _⟩
theorem own_there {w : World} {base g cap n size : Nat} {e : TypeId} {xs : List Value} (h : w.ownsRow base e size (.slice (some ⟨g, 0, none⟩) n cap) n xs) (o m : Nat) (hm : o + m ≤ n * size) : w.there g o m := fun j hj =>
  ⟨by rw [h.cellAt _ (by omega)]; simp [h.1]; omega, h.frozenAt _⟩
theorem own_setCells {base g cap n size : Nat} {e : TypeId} : ∀ (vs : List Value) (o : Nat) {w : World} {xs : List Value}, w.ownsRow base e size (.slice (some ⟨g, 0, none⟩) n cap) n xs → o + vs.length ≤ n * size →
    ∃ xs' : List Value, (w.setCells g o vs).ownsRow base e size (.slice (some ⟨g, 0, none⟩) n cap) n xs' ∧ ∀ k, xs'[k]? = if o ≤ k ∧ k < o + vs.length then vs[k - o]? else xs[k]?
  | [], o, w, xs, h, _ => ⟨xs, h, fun k => by rw [if_neg (by simp)]⟩
  | v :: r, o, w, xs, h, hl => by
    simp only [List.length_cons] at hl
    obtain ⟨xs', h1, h3⟩ := own_setCells r (o + 1) (h.stored o v).1 (by omega)
    refine ⟨xs', h1, fun k => ?_⟩
    have hlen := h.1
    rw [h3 k]
    simp only [List.length_cons]
    rcases Nat.lt_trichotomy k o with hk | hk | hk
    · rw [if_neg (by omega), if_neg (by omega), List.getElem?_set_ne (by omega)]
    · subst hk
      rw [if_neg (by omega), if_pos (by omega)]
      simp only [Nat.sub_self, List.getElem?_cons_zero]
      rw [List.getElem?_set_self (by omega)]
    · by_cases hk2 : k < o + (r.length + 1)
      · rw [if_pos (by omega), if_pos (by omega), show k - o = (k - (o + 1)) + 1 by omega, List.getElem?_cons_succ]
      · rw [if_neg (by omega), if_neg (by omega), List.getElem?_set_ne (by omega)]
theorem Blk.setAll {w : World} {g : Nat} {t : TypeId} {cs : Array Value} (h : Blk w g t cs) (vs : List Value) (hl : vs.length = cs.size) : Blk (w.setCells g 0 vs) g t vs.toArray :=
  h.setTo 0 vs (by omega) fun k => by
    by_cases hk : k < vs.length
    · rw [if_pos (by omega), List.getElem?_toArray]; rfl
    · rw [if_neg (by omega), List.getElem?_toArray, List.getElem?_eq_none (by omega), Array.getElem?_eq_none (by omega)]
end Go.Proofs.Ytklccgmhllpjkaa
