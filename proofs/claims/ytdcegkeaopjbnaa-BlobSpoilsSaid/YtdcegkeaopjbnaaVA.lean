/- The texts V1 V2 V3 V4 V5 V6 V7 V8 V9 V10 V11. -/
import Derived.Test.YtdcegkeaopjbnaaGA
import Derived.ChangeKeysEq
import Derived.Deep.MidRow
import Derived.Deep.AppendLies
import Derived.StillTailTactics
import Derived.Laws.MakeOwn
import Derived.Deep.RegionHeld3
set_option maxRecDepth 10000
namespace Go.Proofs.Ytdcegkeaopjbnaa

section
open Go.RowKit

structure Sec where
  l : List UInt8
  h : l.length = 128
theorem Sec.eq : ∀ {s t : Sec}, s.l = t.l → s = t
  | ⟨_, _⟩, ⟨_, _⟩, rfl => rfl
def Sec.same (s t : Sec) : Bool := decide (s.l = t.l)
theorem Sec.same_iff {s t : Sec} : s.same t = true ↔ s = t := by
  unfold Sec.same
  rw [decide_eq_true_iff]
  exact ⟨Sec.eq, fun h => by rw [h]⟩
theorem Sec.same_self (s : Sec) : s.same s = true := Sec.same_iff.2 rfl
def Sec.cs (s : Sec) : List Value := bys s.l
theorem Sec.cs_len (s : Sec) : s.cs.length = 128 := by rw [Sec.cs, bys_len, s.h]
theorem Sec.one (s : Sec) : ∀ u ∈ s.cs, u.oneCell' = true := bys_one
theorem Sec.at_ (s : Sec) (j : Nat) (h : j < 128) : s.cs[j]? = some (.int .u8 ((s.l[j]'(by rw [s.h]; exact h)).toNat : Int)) := bys_at s.l j (by rw [s.h]; exact h)
def zsec : Sec := ⟨List.replicate 128 0, List.length_replicate ..⟩

def flat (l : List Sec) : List Value := l.flatMap Sec.cs
theorem flat_len : ∀ l : List Sec, (flat l).length = l.length * 128
  | [] => rfl
  | s :: r => by
    have := flat_len r
    simp only [flat, List.flatMap_cons, List.length_append, Sec.cs_len, List.length_cons] at this ⊢
    omega
theorem flat_at : ∀ (l : List Sec) (i : Nat) (h : i < l.length) (j : Nat), j < 128 → (flat l)[i * 128 + j]? = (l[i].cs)[j]?
  | s :: r, 0, _, j, hj => by
    simp only [flat, List.flatMap_cons, Nat.zero_mul, Nat.zero_add, List.getElem_cons_zero]
    rw [List.getElem?_append_left (by rw [Sec.cs_len]; exact hj)]
  | s :: r, i + 1, h, j, hj => by
    have := flat_at r i (by simpa using h) j hj
    simp only [flat, List.flatMap_cons, List.getElem_cons_succ] at this ⊢
    rw [List.getElem?_append_right (by rw [Sec.cs_len]; omega), Sec.cs_len, show (i + 1) * 128 + j - 128 = i * 128 + j by omega]
    exact this
theorem flat_one (l : List Sec) : ∀ u ∈ flat l, u.oneCell' = true := by
  intro u hu
  simp only [flat, List.mem_flatMap] at hu
  obtain ⟨s, _, hs⟩ := hu
  exact s.one u hs
theorem flat_snoc (l : List Sec) (s : Sec) : flat (l ++ [s]) = flat l ++ s.cs := by simp [flat]

/-- A pending write's cells. -/
def wcs (p : Nat × Sec) : List Value := .int .i64 (p.1 : Int) :: p.2.cs
theorem wcs_len (p : Nat × Sec) : (wcs p).length = 129 := by simp [wcs, Sec.cs_len]
theorem wcs_one (p : Nat × Sec) : ∀ u ∈ wcs p, u.oneCell' = true := by
  intro u hu
  simp only [wcs, List.mem_cons] at hu
  rcases hu with rfl | hu
  · rfl
  · exact p.2.one u hu
def flatW (l : List (Nat × Sec)) : List Value := l.flatMap wcs
theorem flatW_len : ∀ l : List (Nat × Sec), (flatW l).length = l.length * 129
  | [] => rfl
  | s :: r => by
    have := flatW_len r
    simp only [flatW, List.flatMap_cons, List.length_append, wcs_len, List.length_cons] at this ⊢
    omega
theorem flatW_at : ∀ (l : List (Nat × Sec)) (i : Nat) (h : i < l.length) (j : Nat), j < 129 → (flatW l)[i * 129 + j]? = (wcs l[i])[j]?
  | s :: r, 0, _, j, hj => by
    simp only [flatW, List.flatMap_cons, Nat.zero_mul, Nat.zero_add, List.getElem_cons_zero]
    rw [List.getElem?_append_left (by rw [wcs_len]; exact hj)]
  | s :: r, i + 1, h, j, hj => by
    have := flatW_at r i (by simpa using h) j hj
    simp only [flatW, List.flatMap_cons, List.getElem_cons_succ] at this ⊢
    rw [List.getElem?_append_right (by rw [wcs_len]; omega), wcs_len, show (i + 1) * 129 + j - 129 = i * 129 + j by omega]
    exact this
theorem flatW_snoc (l : List (Nat × Sec)) (p : Nat × Sec) : flatW (l ++ [p]) = flatW l ++ wcs p := by simp [flatW]

/-- What a step of the world leaves alone: all blocks that were there but those of O. -/
structure Chg (w w' : World) (O : Nat → Prop) : Prop where
  os : w'.os = w.os
  tape : w'.tape = w.tape
  output : w'.output = w.output
  size : w.heap.size ≤ w'.heap.size
  block : ∀ k, k < w.heap.size → ¬ O k → w'.heap[k]? = w.heap[k]?
section
variable {w w' w'' : World} {O O' : Nat → Prop}
theorem Chg.refl (w : World) (O : Nat → Prop) : Chg w w O := ⟨rfl, rfl, rfl, Nat.le_refl _, fun _ _ _ => rfl⟩
theorem Chg.mono (h : Chg w w' O) (hO : ∀ k, k < w.heap.size → O k → O' k) : Chg w w' O' := ⟨h.os, h.tape, h.output, h.size, fun k hk hn => h.block k hk fun ho => hn (hO k hk ho)⟩
theorem Chg.trans (h : Chg w w' O) (k : Chg w' w'' O') (hO : ∀ k, k < w.heap.size → O' k → O k) : Chg w w'' O :=
  ⟨k.os.trans h.os, k.tape.trans h.tape, k.output.trans h.output, Nat.le_trans h.size k.size, fun j hj hn => (k.block j (Nat.lt_of_lt_of_le hj h.size) fun ho => hn (hO j hj ho)).trans (h.block j hj hn)⟩
theorem Chg.drew (h : Chg w w' O) : Chg w w'.drew O := ⟨h.os, h.tape, h.output, h.size, h.block⟩
theorem Chg.alloc (h : Chg w w' O) (o : Obj) : Chg w (w'.alloc o) O :=
  ⟨h.os, h.tape, h.output, by simp; exact Nat.le_succ_of_le h.size, fun k hk hn => (Below.heap_alloc w' o k (Nat.lt_of_lt_of_le hk h.size)).trans (h.block k hk hn)⟩
theorem Chg.setCell (h : Chg w w' O) {p : Addr} (hp : O p.block ∨ w.heap.size ≤ p.block) (u : Value) : Chg w (w'.setCell p u) O :=
  ⟨h.os, h.tape, h.output, by simp [World.setCell]; exact h.size, fun k hk hn => (Below.heap_setCell w' p u k (fun e => by
    subst e
    rcases hp with hp | hp
    · exact hn hp
    · omega)).trans (h.block k hk hn)⟩
theorem Chg.setCells {b : Nat} (hp : O b ∨ w.heap.size ≤ b) : ∀ (vs : List Value) (o : Nat) {w' : World}, Chg w w' O → Chg w (w'.setCells b o vs) O
  | [], _, _, h => h
  | v :: r, o, _, h => Chg.setCells hp r (o + 1) (h.setCell (p := ⟨b, o, none⟩) hp v)
theorem Chg.setRow (h : Chg w w' O) {g : Nat} (hp : O g ∨ w.heap.size ≤ g) (cs : Array Value) : Chg w (w'.setRow g cs) O :=
  ⟨h.os, h.tape, h.output, by simp [World.setRow]; exact h.size, fun k hk hn => (setRow_other w' g k cs (fun e => by
    subst e
    rcases hp with hp | hp
    · exact hn hp
    · omega)).trans (h.block k hk hn)⟩
theorem Chg.grown {row : Option Nat} (h : Chg w w' O) (hg : w'.grownBy w'' row) (hr : ∀ k, row = some k → O k ∨ w.heap.size ≤ k) : Chg w w'' O :=
  ⟨hg.os.trans h.os, hg.tape.trans h.tape, hg.output.trans h.output, Nat.le_trans h.size hg.size, fun k hk hn => (hg.block k (Nat.lt_of_lt_of_le hk h.size) (fun e => by
    rcases hr k e.symm with hp | hp
    · exact hn hp
    · omega)).trans (h.block k hk hn)⟩
theorem Chg.below {B : Nat} (h : Chg w w' O) (hO : ∀ k, O k → B ≤ k) (hB : B ≤ w.heap.size) : Below B w w' :=
  ⟨h.os, h.tape, h.output, h.size, fun k hk => h.block k (Nat.lt_of_lt_of_le hk hB) fun ho => by have := hO k ho; omega⟩
theorem Chg.of_below (h : Below w.heap.size w w') : Chg w w' O := ⟨h.os, h.tape, h.output, h.size, fun k hk _ => h.block k hk⟩
theorem Chg.cell (h : Chg w w' O) {b : Nat} (hb : b < w.heap.size) (hn : ¬ O b) (o : Nat) : w'.cell? ⟨b, o, none⟩ = w.cell? ⟨b, o, none⟩ := World.cell?_of_block (w := w) (a := ⟨b, o, none⟩) (h.block b hb hn)
theorem Blk.chg {g : Nat} {t : TypeId} {cs : Array Value} (h : Blk w g t cs) (c : Chg w w' O) (hn : ¬ O g) : Blk w' g t cs := (c.block g h.lt hn).trans h
theorem own_chg {base e size n : Nat} {v : Value} {xs : List Value} (h : w.ownsRow base e size v n xs) (c : Chg w w' O) (hn : ∀ g, v.ownBlock = some g → ¬ O g) : w'.ownsRow base e size v n xs := by
  refine ⟨h.1, ?_⟩
  rcases h.2 with h0 | ⟨g, cap, cur, rfl, hbg, hg, hrest⟩
  · exact .inl h0
  · exact .inr ⟨g, cap, cur, rfl, hbg, (c.block g (h.lt g rfl).2 (hn g rfl)).trans hg, hrest⟩
end

theorem flat_set (l : List Sec) (i : Nat) (s : Sec) (hi : i < l.length) (k : Nat) :
    (flat (l.set i s)).toArray[k]? = if i * 128 ≤ k ∧ k < i * 128 + s.cs.length then s.cs[k - i * 128]? else (flat l).toArray[k]? := by
  rw [Sec.cs_len]
  by_cases hk : k < l.length * 128
  · have h1 : k = k / 128 * 128 + k % 128 := by omega
    have h2 : k / 128 < l.length := by omega
    have h3 : k % 128 < 128 := by omega
    generalize k / 128 = q at *
    generalize k % 128 = r at *
    subst h1
    rw [List.getElem?_toArray, List.getElem?_toArray, flat_at _ q (by simpa using h2) r h3, flat_at _ q h2 r h3]
    by_cases hq : q = i
    · subst hq
      rw [if_pos (by omega), List.getElem_set_self, show q * 128 + r - q * 128 = r by omega]
    · rw [if_neg (by omega), List.getElem_set_ne (by omega)]
  · rw [if_neg (by omega), List.getElem?_toArray, List.getElem?_toArray, List.getElem?_eq_none (by rw [flat_len, List.length_set]; omega), List.getElem?_eq_none (by rw [flat_len]; omega)]
/-- A sector of a row of sectors is written. -/
theorem Blk.setSec {w : World} {g : Nat} {t : TypeId} {l : List Sec} (h : Blk w g t (flat l).toArray) (i : Nat) (s : Sec) (hi : i < l.length) : Blk (w.setCells g (i * 128) s.cs) g t (flat (l.set i s)).toArray :=
  h.setTo _ _ (by rw [Sec.cs_len, List.size_toArray, flat_len]; omega) (flat_set l i s hi)
theorem Blk.sec {w : World} {g : Nat} {t : TypeId} {l : List Sec} (h : Blk w g t (flat l).toArray) (i : Nat) (hi : i < l.length) : w.rangeAt g (i * 128) l[i].cs :=
  h.range _ _ fun j v hj => by
    rw [List.getElem?_toArray, flat_at l i hi j (by have := (List.getElem?_eq_some_iff.1 hj).1; rwa [Sec.cs_len] at this)]
    exact hj
theorem Blk.secThere {w : World} {g : Nat} {t : TypeId} {l : List Sec} (h : Blk w g t (flat l).toArray) (i : Nat) (hi : i < l.length) : w.there g (i * 128) 128 :=
  h.there _ _ (by rw [List.size_toArray, flat_len]; omega)
theorem Blk.row {w : World} {g : Nat} {t : TypeId} {cs : Array Value} (h : Blk w g t cs) (l : List Value) : Blk (w.setRow g l.toArray) g t l.toArray := setRow_heap w g cs _ t _ h
theorem Blk.new2 (w : World) (t : TypeId) (cs : Array Value) (l : List Value) : Blk ((w.alloc (.cells cs t)).setRow w.heap.size l.toArray) w.heap.size t l.toArray := (Blk.new w t cs).row l
theorem own_sec {w : World} {base g cap n : Nat} {e : TypeId} {l : List (Nat × Sec)} (h : w.ownsRow base e 129 (.slice (some ⟨g, 0, none⟩) n cap) n (flatW l)) (i : Nat) (hi : i < l.length) : w.rangeAt g (i * 129) (wcs l[i]) := fun j v hj => by
  have hj' : j < 129 := by have := (List.getElem?_eq_some_iff.1 hj).1; rwa [wcs_len] at this
  have hn : l.length = n := by have := h.1; rw [flatW_len] at this; omega
  rw [h.cellAt _ (by omega), flatW_at l i hi j hj']
  exact hj
theorem own_there {w : World} {base g cap n size : Nat} {e : TypeId} {xs : List Value} (h : w.ownsRow base e size (.slice (some ⟨g, 0, none⟩) n cap) n xs) (o m : Nat) (hm : o + m ≤ n * size) : w.there g o m := fun j hj =>
  ⟨by rw [h.cellAt _ (by omega)]; simp [h.1]; omega, h.frozenAt _⟩
theorem own_setCells {base g cap n size : Nat} {e : TypeId} : ∀ (vs : List Value) (o : Nat) {w : World} {xs : List Value}, w.ownsRow base e size (.slice (some ⟨g, 0, none⟩) n cap) n xs → o + vs.length ≤ n * size →
    ∃ xs' : List Value, (w.setCells g o vs).ownsRow base e size (.slice (some ⟨g, 0, none⟩) n cap) n xs' ∧ ∀ k, xs'[k]? = if o ≤ k ∧ k < o + vs.length then vs[k - o]? else xs[k]?
  | [], o, w, xs, h, _ => ⟨xs, h, fun k => by rw [if_neg (by simp)]⟩
  | v :: r, o, w, xs, h, hl => by
    simp only [List.length_cons] at hl
    obtain ⟨xs', h1, h3⟩ := own_setCells r (o + 1) (h.stored o v).1 (by omega)
    refine ⟨xs', h1, fun k => ?_⟩
    have hlen := h.1
    rw [h3 k]
    simp only [List.length_cons]
    rcases Nat.lt_trichotomy k o with hk | hk | hk
    · rw [if_neg (by omega), if_neg (by omega), List.getElem?_set_ne (by omega)]
    · subst hk
      rw [if_neg (by omega), if_pos (by omega)]
      simp only [Nat.sub_self, List.getElem?_cons_zero]
      rw [List.getElem?_set_self (by omega)]
    · by_cases hk2 : k < o + (r.length + 1)
      · rw [if_pos (by omega), if_pos (by omega), show k - o = (k - (o + 1)) + 1 by omega, List.getElem?_cons_succ]
      · rw [if_neg (by omega), if_neg (by omega), List.getElem?_set_ne (by omega)]
end
section
open Go.RowKit

theorem infoSec : (Try.prog.info? 46).map (fun i => (i.zero, i.size, i.bytes)) = some (some (.agg zsec.cs.toArray), 128, 128) := by kernel_rfl
theorem infoW : (Try.prog.info? 75).map (fun i => (i.zero, i.size, i.bytes)) = some (some (.agg (wcs (0, zsec)).toArray), 129, 136) := by kernel_rfl
theorem sizeSec : (Try.prog.info? 46).map (·.size) = some 128 := by kernel_rfl
theorem sizeSec' (s : Sec) : (Try.prog.info? 46).map (·.size) = some s.cs.length := by rw [Sec.cs_len]; exact sizeSec
theorem sizeSec'' (s : Sec) : (Try.prog.info? 46).map (·.size) = some s.cs.toArray.size := by rw [List.size_toArray, Sec.cs_len]; exact sizeSec
theorem sizeW : (Try.prog.info? 75).map (·.size) = some 129 := by kernel_rfl
theorem sizeW' (p : Nat × Sec) : (Try.prog.info? 75).map (·.size) = some (wcs p).length := by rw [wcs_len]; exact sizeW
theorem sizeW'' (p : Nat × Sec) : (Try.prog.info? 75).map (·.size) = some (wcs p).toArray.size := by rw [List.size_toArray, wcs_len]; exact sizeW
theorem zeroSec (w : World) : Sem.run Try.prog (zeroValue 46) w = .ok (.agg zsec.cs.toArray) w := by
  obtain ⟨i, hi, hz, _, _⟩ := info_parts infoSec
  simp [zeroValue, typeInfo, hi, hz]
theorem zeroW (w : World) : Sem.run Try.prog (zeroValue 75) w = .ok (.agg (wcs (0, zsec)).toArray) w := by
  obtain ⟨i, hi, hz, _, _⟩ := info_parts infoW
  simp [zeroValue, typeInfo, hi, hz]
theorem all_one {cs : List Value} (h : ∀ v ∈ cs, v.oneCell' = true) : cs.toArray.all (·.oneCell') = true := all_oneCell_toArray h

/-! ### Arrays and structs put together -/
theorem foldl_zip (off : Nat) : ∀ (l : List Value) (m : Nat) (z : Array Value), off + m + l.length ≤ z.size →
    ((l.zipIdx m).foldl (fun cs x => cs.setIfInBounds (off + x.2) x.1) z).size = z.size ∧
    ∀ k, ((l.zipIdx m).foldl (fun cs x => cs.setIfInBounds (off + x.2) x.1) z)[k]? = if off + m ≤ k ∧ k < off + m + l.length then l[k - (off + m)]? else z[k]?
  | [], m, z, _ => ⟨rfl, fun k => by rw [if_neg (by simp)]; rfl⟩
  | v :: r, m, z, hl => by
    simp only [List.length_cons] at hl
    obtain ⟨h1, h2⟩ := foldl_zip off r (m + 1) (z.setIfInBounds (off + m) v) (by simp; omega)
    simp only [List.zipIdx_cons, List.foldl_cons, List.length_cons]
    refine ⟨by rw [h1]; simp, fun k => ?_⟩
    rw [h2 k]
    rcases Nat.lt_trichotomy k (off + m) with hk | hk | hk
    · rw [if_neg (by omega), if_neg (by omega), Array.getElem?_setIfInBounds_ne (by omega)]
    · subst hk
      rw [if_neg (by omega), if_pos (by omega)]
      simp only [Nat.sub_self, List.getElem?_cons_zero]
      rw [Array.getElem?_setIfInBounds_self_of_lt (by omega)]
    · by_cases hk2 : k < off + m + (r.length + 1)
      · rw [if_pos (by omega), if_pos (by omega), show k - (off + m) = (k - (off + (m + 1))) + 1 by omega, List.getElem?_cons_succ]
      · rw [if_neg (by omega), if_neg (by omega), Array.getElem?_setIfInBounds_ne (by omega)]
theorem fill_two (a : Nat) (s : Sec) :
    Instr.fill (fun i => (#[(0, 1), (1, 128)] : Array (Nat × Nat))[i]?) (wcs (0, zsec)).toArray [(0, .int .i64 (a : Int)), (1, .agg s.cs.toArray)] = some (wcs (a, s)).toArray := by
  have h0 : (wcs (0, zsec)).toArray.size = 129 := by rw [List.size_toArray, wcs_len]
  have h1 : s.cs.toArray.size = 128 := by rw [List.size_toArray, Sec.cs_len]
  have e1 : ∀ z : Array Value, (#[Value.int .i64 (a : Int)] : Array Value).zipIdx.foldl (fun cs (c, j) => cs.setIfInBounds (0 + j) c) z = z.setIfInBounds 0 (.int .i64 (a : Int)) := fun z => by simp
  have e2 : ∀ z : Array Value, s.cs.toArray.zipIdx.foldl (fun cs (c, j) => cs.setIfInBounds (1 + j) c) z = (s.cs.zipIdx 0).foldl (fun cs x => cs.setIfInBounds (1 + x.2) x.1) z := fun z => by
    rw [← Array.foldl_toList, Array.toList_zipIdx]
  unfold Instr.fill
  simp only [List.getElem?_toArray, List.getElem?_cons_zero, Value.cells, h0, e1]
  rw [if_neg (by simp)]
  unfold Instr.fill
  have hcs : (Value.agg s.cs.toArray).cells = s.cs.toArray := rfl
  simp only [List.getElem?_cons_succ, List.getElem?_cons_zero, hcs, h0, h1, e2, Array.size_setIfInBounds]
  rw [if_neg (by decide)]
  unfold Instr.fill
  obtain ⟨h2, h3⟩ := foldl_zip 1 s.cs 0 ((wcs (0, zsec)).toArray.setIfInBounds 0 (.int .i64 (a : Int))) (by rw [Array.size_setIfInBounds, h0, Sec.cs_len]; omega)
  refine congrArg some (Array.ext_getElem? fun k => ?_)
  have hR : ∀ p : Nat × Sec, (wcs p).toArray[k]? = (wcs p)[k]? := fun p => List.getElem?_toArray ..
  rw [h3 k, hR]
  simp only [Nat.add_zero, Sec.cs_len]
  rcases Nat.eq_zero_or_pos k with rfl | hk
  · rw [if_neg (by omega), Array.getElem?_setIfInBounds_self_of_lt (by rw [h0]; omega)]
    rfl
  · by_cases hj : k < 129
    · rw [if_pos (by omega)]
      obtain ⟨j, rfl⟩ : ∃ j, k = j + 1 := ⟨k - 1, by omega⟩
      rw [Nat.add_sub_cancel]
      rfl
    · rw [if_neg (by omega), Array.getElem?_setIfInBounds_ne (by omega), hR, List.getElem?_eq_none (by rw [wcs_len]; omega), List.getElem?_eq_none (by rw [wcs_len]; omega)]
theorem buildW (a : Nat) (s : Sec) (w : World) : (Instr.build 75 #[(0, .int .i64 (a : Int)), (1, .agg s.cs.toArray)]).run Try.prog w = .ok (.agg (wcs (a, s)).toArray) w := by
  refine run_build w _ _ _ ?_
  obtain ⟨i, hi, hz, hs, _⟩ := info_parts infoW
  have hp : (Try.prog.fieldsOf 75).toList.mapM (fun f => (Try.prog.info? f.type).map fun i => (f.offset, i.size)) = some [(0, 1), (1, 128)] := by kernel_rfl
  unfold Program.built
  simp only [hi, Try.underlying75, hz]
  unfold Program.fieldsOf at hp
  simp only [Try.underlying75] at hp
  rw [hp]
  exact fill_two a s
theorem buildZ (w : World) : (Instr.build 46 #[]).run Try.prog w = .ok (.agg zsec.cs.toArray) w := by
  refine run_build w _ _ _ ?_
  kernel_rfl
def osec (b : UInt8) : Sec := ⟨b :: List.replicate 127 0, by rw [List.length_cons, List.length_replicate]⟩
theorem build1 (w : World) : (Instr.build 46 #[(0, .int .u8 1)]).run Try.prog w = .ok (.agg (osec 1).cs.toArray) w := by
  refine run_build w _ _ _ ?_
  kernel_rfl
theorem build2 (w : World) : (Instr.build 46 #[(0, .int .u8 2)]).run Try.prog w = .ok (.agg (osec 2).cs.toArray) w := by
  refine run_build w _ _ _ ?_
  kernel_rfl
/-! ### Two sectors held against each other -/
theorem run_eqSec (s t : Sec) (w : World) : (Op.equal 46 (.agg s.cs.toArray) (.agg t.cs.toArray)).run Try.prog w = .ok (s.same t) w := by
  have hq : ∀ s : Sec, ∀ i ∈ List.range 128, Try.prog.keyLits 1 5 ((s.cs.toArray.toList.drop (i * Try.prog.cellsOf 5)).take (Try.prog.cellsOf 5)) = some [.int .u8 ((s.l.getD i 0).toNat : Int)] := by
    intro s i hi
    have hi := List.mem_range.1 hi
    have hc : Try.prog.cellsOf 5 = 1 := by kernel_rfl
    rw [hc, Nat.mul_one]
    have hd : (s.cs.toArray.toList.drop i).take 1 = [.int .u8 ((s.l.getD i 0).toNat : Int)] := by
      have h1 : i < s.cs.length := by rw [Sec.cs_len]; exact hi
      rw [List.drop_eq_getElem_cons h1, List.take_succ_cons, List.take_zero]
      have h2 := s.at_ i hi
      rw [List.getElem?_eq_getElem h1] at h2
      simp only [Option.some.injEq] at h2
      rw [h2]
      simp [List.getD, List.getElem?_eq_getElem (show i < s.l.length by rw [s.h]; exact hi)]
    rw [hd]
    unfold Program.keyLits
    simp only [Try.underlying5]
    have hw : (Lit.int .u8 ((s.l.getD i 0).toNat : Int)).wf = true := by
      have := (s.l.getD i 0).toNat_lt
      generalize (s.l.getD i 0).toNat = q at *
      simp [Lit.wf, IntKind.min, IntKind.max, IntKind.signed, IntKind.bits]
      omega
    simp only [hw, and_true, if_true]
  have hm : ∀ s : Sec, (List.range 128).mapM (fun i => Try.prog.keyLits 1 5 ((s.cs.toArray.toList.drop (i * Try.prog.cellsOf 5)).take (Try.prog.cellsOf 5))) = some ((List.range 128).map fun i => [Lit.int .u8 ((s.l.getD i 0).toNat : Int)]) := by
    intro s
    have gen : ∀ is : List Nat, (∀ i ∈ is, i ∈ List.range 128) → is.mapM (fun i => Try.prog.keyLits 1 5 ((s.cs.toArray.toList.drop (i * Try.prog.cellsOf 5)).take (Try.prog.cellsOf 5))) = some (is.map fun i => [Lit.int .u8 ((s.l.getD i 0).toNat : Int)]) := by
      intro is
      induction is with
      | nil => intro _; rfl
      | cons i is ih =>
        intro h
        rw [List.mapM_cons, hq s i (h i (by simp)), ih fun j hj => h j (by simp [hj])]
        rfl
    exact gen _ fun _ h => h
  obtain ⟨iu, hiu⟩ : ∃ i, Try.prog.info? 5 = some i := info_of_underlying Try.underlying5
  obtain ⟨r, hr, hiff⟩ := run_eqItems_plain (P := Try.prog) w 9998 (e := 5) (by simp [Program.plainKey, Try.underlying5]) s.cs.toArray t.cs.toArray _ _ _ (hm s) (hm t)
  unfold Op.equal Op.maxDepth
  rw [run_equalIn_array (P := Try.prog) w 9999 _ _ Try.underlying46 hiu, hr]
  suffices e0 : r = s.same t by rw [e0]
  have e1 : (r = true) ↔ (s.same t = true) := by
    rw [hiff, Sec.same_iff]
    constructor
    · intro h
      have hs : ∀ u : Sec, ((List.range 128).map fun i => [Lit.int .u8 ((u.l.getD i 0).toNat : Int)]).flatten = (List.range 128).map fun i => Lit.int .u8 ((u.l.getD i 0).toNat : Int) := by
        intro u
        generalize List.range 128 = is
        induction is with
        | nil => rfl
        | cons i is ih => simp only [List.map_cons, List.flatten_cons, ih]; rfl
      rw [hs, hs] at h
      refine Sec.eq (List.ext_getElem (by rw [s.h, t.h]) fun i hi hi' => ?_)
      have hi2 : i < 128 := by rw [s.h] at hi; exact hi
      have := congrArg (fun l => l[i]?) h
      simp only [List.getElem?_map, List.getElem?_range hi2, Option.map_some, Option.some.injEq, Lit.int.injEq, true_and, List.getD, List.getElem?_eq_getElem hi, List.getElem?_eq_getElem hi', Option.getD_some] at this
      exact UInt8.toNat_inj.1 (by omega)
    · intro h
      rw [h]
  cases r <;> cases h : s.same t <;> simp_all

/-! ### What a device is, and what each call does to it -/
structure St where
  st : List Sec
  nw : List Sec
  pend : List (Nat × Sec)
  ops : Int
  left : Int
  dead : Bool
structure Dev where
  g : Nat
  gs : Nat
  gn : Nat
def Dev.own (D : Dev) (pv : Value) (k : Nat) : Prop := k = D.g ∨ k = D.gs ∨ k = D.gn ∨ pv.ownBlock = some k
def St.count (s : St) : St := { s with ops := if s.ops < 4611686018427387903 then s.ops + 1 else s.ops }
def St.refuse (s : St) : St := if s.left = 0 then { s with dead := true } else if 0 < s.left then { s with left := s.left - 1 } else s
def hasF (n : Nat) (i : Int) : Bool := decide (0 ≤ i ∧ i < n)
def applyF (ps : List (Nat × Sec)) (l : List Sec) : List Sec := ps.foldl (fun l p => l.set p.1 p.2) l
def applyK (ks : List Bool) (ps : List ((Nat × Sec) × Nat)) (l : List Sec) : List Sec := ps.foldl (fun l p => if ks.getD p.2 false = true then l.set p.1.1 p.1.2 else l) l
def rotP (i : Nat) (x : Sec) (ps : List (Nat × Sec)) : List (Nat × Sec) := ps.map fun p => if p.1 = i then (p.1, x) else p
def St.write (n : Nat) (s : St) (i : Int) (x : Sec) : St × Int :=
  if hasF n i = true then
    if s.count.refuse.dead = true then (s.count.refuse, 42)
    else ({ s.count.refuse with nw := s.nw.set i.toNat x, pend := s.pend ++ [(i.toNat, x)] }, 0)
  else (s.count, 41)
def St.flush (s : St) : St × Int :=
  if s.count.refuse.dead = true then (s.count.refuse, 42) else ({ s.count.refuse with st := applyF s.pend s.st, pend := [] }, 0)
def St.crash (s : St) (ks : List Bool) : St :=
  { s with st := applyK ks s.pend.zipIdx s.st, nw := applyK ks s.pend.zipIdx s.st, pend := [], left := -1, dead := false }
def St.rot (n : Nat) (s : St) (i : Int) (x : Sec) : St × Int :=
  if hasF n i = true then ({ s with st := s.st.set i.toNat x, nw := s.nw.set i.toNat x, pend := rotP i.toNat x s.pend }, 0) else (s, 41)
def St.read (n : Nat) (s : St) (i : Int) : Sec × Int :=
  if hasF n i = true then if s.dead = true then (zsec, 42) else (s.nw.getD i.toNat zsec, 0) else (zsec, 41)
def St.stable (n : Nat) (s : St) (i : Int) : Sec := if hasF n i = true then s.st.getD i.toNat zsec else zsec

theorem refuse_st (s : St) : s.refuse.st = s.st ∧ s.refuse.nw = s.nw ∧ s.refuse.pend = s.pend ∧ s.refuse.ops = s.ops := by
  unfold St.refuse
  split
  · exact ⟨rfl, rfl, rfl, rfl⟩
  · split <;> exact ⟨rfl, rfl, rfl, rfl⟩
theorem applyF_len : ∀ (ps : List (Nat × Sec)) (l : List Sec), (applyF ps l).length = l.length
  | [], _ => rfl
  | p :: ps, l => by
    have := applyF_len ps (l.set p.1 p.2)
    rw [List.length_set] at this
    exact this
theorem applyF_snoc (ps : List (Nat × Sec)) (k : Nat) (h : k < ps.length) (l : List Sec) : applyF (ps.take (k + 1)) l = (applyF (ps.take k) l).set ps[k].1 ps[k].2 := by
  rw [List.take_succ_eq_append_getElem h]
  unfold applyF
  rw [List.foldl_append]
  rfl
theorem applyK_len (ks : List Bool) : ∀ (ps : List ((Nat × Sec) × Nat)) (l : List Sec), (applyK ks ps l).length = l.length
  | [], _ => rfl
  | p :: ps, l => by
    have := applyK_len ks ps (if ks.getD p.2 false = true then l.set p.1.1 p.1.2 else l)
    refine this.trans ?_
    split
    · rw [List.length_set]
    · rfl
theorem applyK_snoc (ks : List Bool) (ps : List (Nat × Sec)) (k : Nat) (h : k < ps.length) (l : List Sec) :
    applyK ks (ps.zipIdx.take (k + 1)) l = if ks.getD k false = true then (applyK ks (ps.zipIdx.take k) l).set ps[k].1 ps[k].2 else applyK ks (ps.zipIdx.take k) l := by
  rw [List.take_succ_eq_append_getElem (by simpa using h)]
  unfold applyK
  rw [List.foldl_append]
  simp only [List.foldl_cons, List.foldl_nil, List.getElem_zipIdx, Nat.zero_add]

/-- The device lies at D, its pending writes at pv. -/
structure At (w : World) (B n : Nat) (D : Dev) (pv : Value) (s : St) : Prop where
  dev : Blk w D.g 73 #[.slice (some ⟨D.gs, 0, none⟩) n n, .slice (some ⟨D.gn, 0, none⟩) n n, pv, .int .i64 s.ops, .int .i64 s.left, .bool s.dead]
  st : Blk w D.gs 46 (flat s.st).toArray
  nw : Blk w D.gn 46 (flat s.nw).toArray
  pend : w.ownsRow B 75 129 pv s.pend.length (flatW s.pend)
  ne : D.gs ≠ D.gn
  bg : B ≤ D.g ∧ B ≤ D.gs ∧ B ≤ D.gn
  ls : s.st.length = n
  ln : s.nw.length = n
  ok : ∀ p ∈ s.pend, p.1 < n
  hn : n ≤ 1024
  ops : 0 ≤ s.ops ∧ s.ops ≤ 4611686018427387903
  left : I64 s.left
section
variable {w w' : World} {B n : Nat} {D : Dev} {pv : Value} {s : St} {O : Nat → Prop}
theorem blk_ne {g g' : Nat} {t t' : TypeId} {cs cs' : Array Value} (h : Blk w g t cs) (h' : Blk w g' t' cs') (ht : t ≠ t') : g ≠ g' := by
  rintro rfl
  unfold Blk at h h'
  rw [h] at h'
  cases h'
  exact ht rfl
theorem own_blk {base e size m : Nat} {v : Value} {xs : List Value} (h : w.ownsRow base e size v m xs) {g : Nat} (hg : v.ownBlock = some g) : ∃ cs, Blk w g e cs := by
  rcases h.2 with ⟨rfl, _⟩ | ⟨g', cap, cur, rfl, _, hc, _⟩
  · cases hg
  · simp only [Value.ownBlock, Option.some.injEq] at hg
    subst hg
    exact ⟨cur, hc⟩
theorem At.ge (h : At w B n D pv s) (k : Nat) (hk : D.own pv k) : B ≤ k := by
  rcases hk with rfl | rfl | rfl | hk
  · exact h.bg.1
  · exact h.bg.2.1
  · exact h.bg.2.2
  · exact (h.pend.lt k hk).1
theorem At.lt (h : At w B n D pv s) (k : Nat) (hk : D.own pv k) : k < w.heap.size := by
  rcases hk with rfl | rfl | rfl | hk
  · exact h.dev.lt
  · exact h.st.lt
  · exact h.nw.lt
  · exact (h.pend.lt k hk).2
theorem At.chg (h : At w B n D pv s) (c : Chg w w' O) (hO : ∀ k, D.own pv k → ¬ O k) : At w' B n D pv s :=
  { h with
    dev := h.dev.chg c (hO _ (.inl rfl))
    st := h.st.chg c (hO _ (.inr (.inl rfl)))
    nw := h.nw.chg c (hO _ (.inr (.inr (.inl rfl))))
    pend := own_chg h.pend c fun _ hg => hO _ (.inr (.inr (.inr hg))) }
/-- A block of another type than the device's own is none of its own. -/
theorem At.far (h : At w B n D pv s) {g : Nat} {t : TypeId} {cs : Array Value} (hb : Blk w g t cs) (h1 : t ≠ 73) (h2 : t ≠ 75) (h3 : t = 46 → g ≠ D.gs ∧ g ≠ D.gn) : ¬ D.own pv g := by
  rintro (rfl | rfl | rfl | hk)
  · exact blk_ne hb h.dev h1 rfl
  · by_cases ht : t = 46
    · exact (h3 ht).1 rfl
    · exact blk_ne hb h.st ht rfl
  · by_cases ht : t = 46
    · exact (h3 ht).2 rfl
    · exact blk_ne hb h.nw ht rfl
  · obtain ⟨cs', hc⟩ := own_blk h.pend hk
    exact blk_ne hb hc h2 rfl
end
/-- From (w, pv) to (w', pv') only what the device owns has turned. -/
structure Goes (D : Dev) (w : World) (pv : Value) (w' : World) (pv' : Value) : Prop where
  chg : Chg w w' (D.own pv)
  row : ∀ k, pv'.ownBlock = some k → pv.ownBlock = some k ∨ w.heap.size ≤ k
theorem Goes.refl (D : Dev) (w : World) (pv : Value) : Goes D w pv w pv := ⟨Chg.refl _ _, fun _ h => .inl h⟩
theorem Goes.own {D : Dev} {w w' : World} {pv pv' : Value} (h : Goes D w pv w' pv') {k : Nat} (hk : k < w.heap.size) (hn : ¬ D.own pv k) : ¬ D.own pv' k := by
  rintro (h1 | h1 | h1 | h1)
  · exact hn (.inl h1)
  · exact hn (.inr (.inl h1))
  · exact hn (.inr (.inr (.inl h1)))
  · rcases h.row k h1 with h2 | h2
    · exact hn (.inr (.inr (.inr h2)))
    · omega
theorem Goes.trans {D : Dev} {w w' w'' : World} {pv pv' pv'' : Value} (h : Goes D w pv w' pv') (k : Goes D w' pv' w'' pv'') : Goes D w pv w'' pv'' :=
  ⟨h.chg.trans k.chg fun j hj ho => by
    by_cases hn : D.own pv j
    · exact hn
    · exact absurd ho (h.own hj hn), fun j hj => by
    rcases k.row j hj with h1 | h1
    · exact h.row j h1
    · exact .inr (Nat.le_trans h.chg.size h1)⟩
end
section
open Go.RowKit

section
variable {w : World} {B n : Nat} {D : Dev} {pv : Value} {s : St}
theorem At.fields (h : At w B n D pv s) : w.cell? ⟨D.g, 0, none⟩ = some (.slice (some ⟨D.gs, 0, none⟩) n n) ∧ w.cell? ⟨D.g, 1, none⟩ = some (.slice (some ⟨D.gn, 0, none⟩) n n) ∧ w.cell? ⟨D.g, 2, none⟩ = some pv ∧
    w.cell? ⟨D.g, 3, none⟩ = some (.int .i64 s.ops) ∧ w.cell? ⟨D.g, 4, none⟩ = some (.int .i64 s.left) ∧ w.cell? ⟨D.g, 5, none⟩ = some (.bool s.dead) ∧ ∀ i, w.frozen? ⟨D.g, i, none⟩ = false :=
  ⟨h.dev.cell 0, h.dev.cell 1, h.dev.cell 2, h.dev.cell 3, h.dev.cell 4, h.dev.cell 5, h.dev.frozen⟩
/-- A field of the device is written. -/
theorem At.set_ops (h : At w B n D pv s) (x : Int) (hx : 0 ≤ x ∧ x ≤ 4611686018427387903) : At (w.setCell ⟨D.g, 3, none⟩ (.int .i64 x)) B n D pv { s with ops := x } := by
  have hg := h.dev.set_ 3 (.int .i64 x)
  have hc := (Chg.refl w (· = D.g)).setCell (p := ⟨D.g, 3, none⟩) (.inl rfl) (.int .i64 x)
  exact { h with
    dev := hg
    st := h.st.chg hc (blk_ne h.st h.dev (by decide))
    nw := h.nw.chg hc (blk_ne h.nw h.dev (by decide))
    pend := own_chg h.pend hc fun g hg => by
      obtain ⟨cs, hb⟩ := own_blk h.pend hg
      exact blk_ne hb h.dev (by decide)
    ops := hx }
theorem At.set_left (h : At w B n D pv s) (x : Int) (hx : I64 x) : At (w.setCell ⟨D.g, 4, none⟩ (.int .i64 x)) B n D pv { s with left := x } := by
  have hg := h.dev.set_ 4 (.int .i64 x)
  have hc := (Chg.refl w (· = D.g)).setCell (p := ⟨D.g, 4, none⟩) (.inl rfl) (.int .i64 x)
  exact { h with
    dev := hg
    st := h.st.chg hc (blk_ne h.st h.dev (by decide))
    nw := h.nw.chg hc (blk_ne h.nw h.dev (by decide))
    pend := own_chg h.pend hc fun g hg => by
      obtain ⟨cs, hb⟩ := own_blk h.pend hg
      exact blk_ne hb h.dev (by decide)
    left := hx }
theorem At.set_dead (h : At w B n D pv s) (x : Bool) : At (w.setCell ⟨D.g, 5, none⟩ (.bool x)) B n D pv { s with dead := x } := by
  have hg := h.dev.set_ 5 (.bool x)
  have hc := (Chg.refl w (· = D.g)).setCell (p := ⟨D.g, 5, none⟩) (.inl rfl) (.bool x)
  exact { h with
    dev := hg
    st := h.st.chg hc (blk_ne h.st h.dev (by decide))
    nw := h.nw.chg hc (blk_ne h.nw h.dev (by decide))
    pend := own_chg h.pend hc fun g hg => by
      obtain ⟨cs, hb⟩ := own_blk h.pend hg
      exact blk_ne hb h.dev (by decide) }
theorem Goes.field (w : World) (D : Dev) (pv : Value) (i : Nat) (u : Value) : Goes D w pv (w.setCell ⟨D.g, i, none⟩ u) pv :=
  ⟨(Chg.refl _ _).setCell (.inl (.inl rfl)) _, fun _ h => .inl h⟩

theorem count_any (h : At w B n D pv s) : Calls Try.prog 32 #[.pointer (some ⟨D.g, 0, none⟩)] w fun e w' => e = .returned (.tuple #[]) ∧ At w' B n D pv s.count ∧ Goes D w pv w' pv := by
  obtain ⟨h0, h1, h2, h3, h4, h5, hf⟩ := h.fields
  have HA := Lib.hid h; clear h
  obtain ⟨ho1, ho2⟩ := HA.out.ops
  by_cases hlt : s.ops < 4611686018427387903
  · have HS : Hid (s.count = { s with ops := s.ops + 1 }) := by unfold St.count; rw [if_pos hlt]; rfl
    go_enter Try.func32, Try.ntmps32
    go_wp2_with fail
    (try simp only [Exit.inBlock, Exit.then]); refine bodyPost_end (results_none rfl _ _ _) rfl ?_
    exact ⟨rfl, by rw [HS.out]; exact HA.out.set_ops _ (by omega), Goes.field _ _ _ _ _⟩
  · have HS : Hid (s.count = s) := by unfold St.count; rw [if_neg hlt]; rfl
    go_enter Try.func32, Try.ntmps32
    go_wp2_with fail
    (try simp only [Exit.inBlock, Exit.then]); refine bodyPost_end (results_none rfl _ _ _) rfl ?_
    exact ⟨rfl, by rw [HS.out]; exact HA.out, Goes.refl _ _ _⟩

theorem vhas_any (h : At w B n D pv s) (i : Int) : Calls Try.prog 33 #[.pointer (some ⟨D.g, 0, none⟩), .int .i64 i] w fun e w' => e = .returned (.bool (hasF n i)) ∧ w' = w := by
  obtain ⟨h0, _⟩ := h.fields
  clear h
  unfold hasF
  by_cases h1 : 0 ≤ i
  · by_cases h2 : i < n
    · have hd : decide (0 ≤ i ∧ i < (n : Int)) = true := by simp [h1, h2]
      rw [hd]
      go_enter Try.func33, Try.ntmps33
      go_wp2_with fail
      go_ret
      exact ⟨rfl, rfl⟩
    · have hd : decide (0 ≤ i ∧ i < (n : Int)) = false := by simp; omega
      rw [hd]
      go_enter Try.func33, Try.ntmps33
      go_wp2_with fail
      go_ret
      exact ⟨rfl, rfl⟩
  · have hd : decide (0 ≤ i ∧ i < (n : Int)) = false := by simp; omega
    rw [hd]
    go_enter Try.func33, Try.ntmps33
    go_wp2_with fail
    go_ret
    exact ⟨rfl, rfl⟩
theorem refuses_any (h : At w B n D pv s) : Calls Try.prog 58 #[.pointer (some ⟨D.g, 0, none⟩)] w fun e w' => e = .returned (.bool s.refuse.dead) ∧ At w' B n D pv s.refuse ∧ Goes D w pv w' pv := by
  obtain ⟨h0, h1, h2, h3, h4, h5, hf⟩ := h.fields
  have HA := Lib.hid h; clear h
  obtain ⟨hl1, hl2⟩ := HA.out.left
  rcases Int.lt_trichotomy s.left 0 with hlt | hlt | hlt
  · have HS : Hid (s.refuse = s) := by unfold St.refuse; rw [if_neg (by omega), if_neg (by omega)]; rfl
    rw [HS.out]
    have hb1 : (s.left == 0) = false := by rw [beq_eq_false_iff_ne]; omega
    go_enter Try.func58, Try.ntmps58
    go_wp2_with fail
    go_ret
    exact ⟨rfl, HA.out, Goes.refl _ _ _⟩
  · have HS : Hid (s.refuse = { s with dead := true }) := by unfold St.refuse; rw [if_pos hlt]; rfl
    rw [HS.out]
    have hb1 : (s.left == 0) = true := by rw [beq_iff_eq]; exact hlt
    clear hlt
    go_enter Try.func58, Try.ntmps58
    go_wp2_with fail
    go_ret
    exact ⟨rfl, HA.out.set_dead _, Goes.field _ _ _ _ _⟩
  · have HS : Hid (s.refuse = { s with left := s.left - 1 }) := by unfold St.refuse; rw [if_neg (by omega), if_pos hlt]; rfl
    rw [HS.out]
    have hb1 : (s.left == 0) = false := by rw [beq_eq_false_iff_ne]; omega
    go_enter Try.func58, Try.ntmps58
    go_wp2_with fail
    go_ret
    exact ⟨rfl, HA.out.set_left _ (by unfold I64; omega), Goes.field _ _ _ _ _⟩
end
end
section
open Go.RowKit

/-- A sector is loaded, wherever it lies. -/
theorem ld_sec {ops : Array Oper} {rest : List Oper} {o : Oper} {a : Act} {w : World} {Q : Exit → Act → World → Prop} (hgd : o.guard = none) (x : Operand) (ho : o.op = .load 46 x)
    (b k : Nat) (s : Sec) (hx : a.eval x = .pointer (some ⟨b, k, none⟩)) (hr : w.rangeAt b k s.cs)
    (h : wpList Try.prog ops Q rest (a.put o.dst (.agg s.cs.toArray)) w) : wpList Try.prog ops Q (o :: rest) a w :=
  wpList_load_mid hgd _ x ho b k hx s.cs _ hr Try.underlying46 rfl (sizeSec' s) h
/-- A sector is stored, wherever there is room for it. -/
theorem st_sec {ops : Array Oper} {rest : List Oper} {o : Oper} {a : Act} {w : World} {Q : Exit → Act → World → Prop} (hgd : o.guard = none) (x y : Operand) (ho : o.op = .store 46 x y)
    (b k : Nat) (s : Sec) (hx : a.eval x = .pointer (some ⟨b, k, none⟩)) (hy : a.eval y = .agg s.cs.toArray) (ht : w.there b k 128)
    (h : ∀ w', Hid (w' = w.setCells b k s.cs) → wpList Try.prog ops Q rest (a.put o.dst undef) w') : wpList Try.prog ops Q (o :: rest) a w :=
  wpList_store_mid hgd _ x y ho b k s.cs.toArray hx hy (by rw [List.size_toArray, Sec.cs_len]; exact ht) (sizeSec'' s) (all_one s.one) (h _ rfl)
theorem Blk.secAll {w : World} {g : Nat} {t : TypeId} {s : Sec} (h : Blk w g t s.cs.toArray) (u : Sec) : Blk (w.setCells g 0 u.cs) g t u.cs.toArray := h.setAll _ (by rw [List.size_toArray, Sec.cs_len, Sec.cs_len])
theorem Blk.secHas {w : World} {g : Nat} {t : TypeId} {s : Sec} (h : Blk w g t s.cs.toArray) : w.there g 0 128 := h.there 0 128 (by rw [List.size_toArray, Sec.cs_len]; omega)
theorem Blk.secIs {w : World} {g : Nat} {t : TypeId} {s : Sec} (h : Blk w g t s.cs.toArray) : w.rangeAt g 0 s.cs := h.range 0 s.cs fun j v hv => by rw [Nat.zero_add, List.getElem?_toArray]; exact hv
section
variable {w : World} {B n : Nat} {D : Dev} {pv : Value} {s : St}
theorem At.alloc (h : At w B n D pv s) (o : Obj) : At (w.alloc o) B n D pv s := h.chg (O := fun _ => False) ((Chg.refl _ _).alloc o) fun _ _ h => h
theorem At.new_far (h : At w B n D pv s) : ¬ D.own pv w.heap.size := fun hk => by have := h.lt _ hk; omega
theorem At.st_at (h : At w B n D pv s) (k : Nat) (hk : k < n) : w.rangeAt D.gs (k * 128) (s.st.getD k zsec).cs := by
  have hl : k < s.st.length := by rw [h.ls]; exact hk
  have := h.st.sec k hl
  rwa [show s.st.getD k zsec = s.st[k] from by simp [List.getD, hl]]
theorem At.nw_at (h : At w B n D pv s) (k : Nat) (hk : k < n) : w.rangeAt D.gn (k * 128) (s.nw.getD k zsec).cs := by
  have hl : k < s.nw.length := by rw [h.ln]; exact hk
  have := h.nw.sec k hl
  rwa [show s.nw.getD k zsec = s.nw[k] from by simp [List.getD, hl]]
theorem chg_new {g : Nat} (w : World) (cs : Array Value) (t : TypeId) (k : Nat) (vs : List Value) (hg : g = w.heap.size) : Chg w ((w.alloc (.cells cs t)).setCells g k vs) (fun _ => False) :=
  Chg.setCells (.inr (by omega)) vs k ((Chg.refl _ _).alloc _)

end
end
section
open Go.RowKit
section
variable {w : World} {B n : Nat} {D : Dev} {pv : Value} {s : St}
/-- Behind a block of the call's own and a step of the device. -/
theorem Goes.behind {o : Obj} {w' : World} {pv' : Value} (g : Goes D (w.alloc o) pv w' pv') : Goes D w pv w' pv' :=
  ⟨((Chg.refl w (D.own pv)).alloc o).trans g.chg fun _ _ h => h, fun k hk => by
    rcases g.row k hk with h1 | h1
    · exact .inl h1
    · exact .inr (by simp at h1; omega)⟩
theorem read_any (h : At w B n D pv s) (i : Int) : Calls Try.prog 17 #[.pointer (some ⟨D.g, 0, none⟩), .int .i64 i] w fun e w' =>
    e = .returned (.tuple #[.agg (s.read n i).1.cs.toArray, .int .i64 (s.read n i).2]) ∧ At w' B n D pv s.count ∧ Goes D w pv w' pv := by
  have hz : ∀ w, Sem.run Try.prog (zeroValue 46) w = .ok (.agg zsec.cs.toArray) w := zeroSec
  have hbd : ∀ w, (Instr.build 46 #[]).run Try.prog w = .ok (.agg zsec.cs.toArray) w := buildZ
  have ha := h.alloc (.cells zsec.cs.toArray 46)
  have hfar := Lib.hid h.new_far
  have HG : ∀ w' pv', Hid (Goes D (w.alloc (.cells zsec.cs.toArray 46)) pv w' pv' → Goes D w pv w' pv') := fun _ _ g => g.behind
  have HA := Lib.hid ha
  clear h ha
  have hbl := Lib.hid (Blk.new w 46 zsec.cs.toArray)
  have HL := Lib.hid (show w.heap.size < (w.alloc (.cells zsec.cs.toArray 46)).heap.size by simp)
  generalize hg0 : w.heap.size = g0 at *
  have HC : Hid (s.count.dead = s.dead ∧ s.count.nw = s.nw) := ⟨rfl, rfl⟩
  obtain ⟨x, er, hx⟩ : ∃ x er, s.read n i = (x, er) := ⟨_, _, rfl⟩
  rw [hx]
  have HX := Lib.hid hx; clear hx
  go_enter Try.func17, Try.ntmps17
  go_wp2_with fail
  refine (count_any HA.out).mono ?_
  rintro e w1 ⟨rfl, hA1, hG1⟩
  have hb1 := Lib.hid (hbl.out.chg hG1.chg hfar.out)
  have hG2 := Lib.hid ((HG _ _).out hG1)
  have hA := Lib.hid hA1
  clear HA hbl hG1 HG HL
  obtain ⟨_, h1, _, _, _, h5, _⟩ := hA1.fields
  rw [HC.out.1] at h5
  clear hA1
  go_wp2_with fail
  refine (vhas_any hA.out _).mono ?_
  rintro e w1 ⟨rfl, rfl⟩
  have fin : ∀ (x : Sec) (w2 : World), Hid (Hid (w2 = w1.setCells g0 0 x.cs) → Blk w2 g0 46 x.cs.toArray ∧ At w2 B n D pv s.count ∧ Goes D w pv w2 pv) := fun x w2 hw => by
    have hw := hw.out
    have hO : ∀ k, D.own pv k → ¬ (k = g0) := fun k hk e => hfar.out (e ▸ hk)
    have hc : Chg w1 w2 (· = g0) := by rw [hw]; exact Chg.setCells (O := (· = g0)) (.inl rfl) _ _ (Chg.refl _ _)
    refine ⟨by rw [hw]; exact hb1.out.secAll x, hA.out.chg hc hO, hG2.out.chg.trans hc fun k hk e => ?_, hG2.out.row⟩
    subst e
    omega
  by_cases h1 : hasF n i = true
  · rw [h1]
    have h1' := h1
    unfold hasF at h1'
    rw [decide_eq_true_iff] at h1'
    obtain ⟨hi0, hin⟩ := h1'
    obtain ⟨k, rfl⟩ := Int.eq_ofNat_of_zero_le hi0
    have hR := Lib.hid (hA.out.nw_at k (by omega))
    rw [HC.out.2] at hR
    cases hd : s.dead with
    | true =>
      rw [hd] at h5
      have hx := HX.out
      rw [St.read, if_pos h1, if_pos hd, Prod.mk.injEq] at hx
      obtain ⟨rfl, rfl⟩ := hx
      clear h1 hR HX
      go_wp2_with (with_reducible refine st_sec rfl _ _ rfl g0 0 zsec rfl rfl hb1.out.secHas ?_; intro w2 hw2)
      obtain ⟨hb2, hA2, hG3⟩ := (fin zsec w2).out hw2
      exact bodyPost_ret (results_row_tmp rfl _ _ _ _ _ _ _ rfl hb2 Try.underlying46 rfl (sizeSec'' zsec)) rfl ⟨rfl, hA2, hG3⟩
    | false =>
      rw [hd] at h5
      have hx := HX.out
      rw [St.read, if_pos h1, if_neg (by rw [hd]; simp), Prod.mk.injEq, Int.toNat_natCast] at hx
      obtain ⟨hx, rfl⟩ := hx
      rw [hx] at hR
      clear h1 HX hx
      go_wp2_with (first
        | (with_reducible refine ld_sec rfl _ rfl D.gn (k * 128) x rfl hR.out ?_)
        | (with_reducible refine st_sec rfl _ _ rfl g0 0 x rfl rfl hb1.out.secHas ?_; intro w2 hw2))
      obtain ⟨hb2, hA2, hG3⟩ := (fin x w2).out hw2
      exact bodyPost_ret (results_row_tmp rfl _ _ _ _ _ _ _ rfl hb2 Try.underlying46 rfl (sizeSec'' x)) rfl ⟨rfl, hA2, hG3⟩
  · have hf : hasF n i = false := by simpa using h1
    rw [hf]
    have hx := HX.out
    rw [St.read, if_neg h1, Prod.mk.injEq] at hx
    obtain ⟨rfl, rfl⟩ := hx
    clear h1 HX
    go_wp2_with (with_reducible refine st_sec rfl _ _ rfl g0 0 zsec rfl rfl hb1.out.secHas ?_; intro w2 hw2)
    obtain ⟨hb2, hA2, hG3⟩ := (fin zsec w2).out hw2
    exact bodyPost_ret (results_row_tmp rfl _ _ _ _ _ _ _ rfl hb2 Try.underlying46 rfl (sizeSec'' zsec)) rfl ⟨rfl, hA2, hG3⟩
end
end
section
open Go.RowKit

theorem made_flat (n : Nat) : madeCells zsec.cs.toArray (n * 128) = (flat (List.replicate n zsec)).toArray := by
  refine Array.ext_getElem? fun k => ?_
  by_cases hk : k < n * 128
  · have h1 : k = k / 128 * 128 + k % 128 := by omega
    have h2 : k / 128 < n := by omega
    have h3 : k % 128 < 128 := by omega
    have hl : zsec.cs.toArray.size = 128 := by rw [List.size_toArray, Sec.cs_len]
    have hm : (madeCells zsec.cs.toArray (n * 128))[k]? = some (zsec.cs.toArray[k % zsec.cs.toArray.size]!) := by simp [madeCells, hk]
    rw [hm, hl, List.getElem?_toArray]
    have hz : zsec.cs[k % 128]? = some (zsec.cs.toArray[k % 128]!) := by
      rw [List.getElem?_eq_getElem (by rw [Sec.cs_len]; omega)]
      simp [getElem!_pos, Sec.cs_len, h3]
    rw [← hz]
    have := flat_at (List.replicate n zsec) (k / 128) (by rw [List.length_replicate]; exact h2) (k % 128) h3
    rw [← h1, List.getElem_replicate] at this
    exact this.symm
  · rw [Array.getElem?_eq_none (by rw [size_madeCells]; omega), Array.getElem?_eq_none (by rw [List.size_toArray, flat_len, List.length_replicate]; omega)]
theorem run_make_sec (n : Nat) (hn : n ≤ 1024) (w : World) :
    (Instr.makeSlice 70 (.int .i64 (n : Int)) (.int .i64 (n : Int))).run Try.prog w = .ok (.slice (some ⟨w.heap.size, 0, none⟩) n n) (w.alloc (.cells (flat (List.replicate n zsec)).toArray 46)) := by
  obtain ⟨i, hi, hz, hsz, hb⟩ := info_parts infoSec
  have hr := run_make (P := Try.prog) w 70 46 i _ Try.underlying70 hi hz .i64 .i64 n n (by omega) (by omega) (by rw [hb]; omega) (by omega)
  have hcs : (Value.agg zsec.cs.toArray).cells = zsec.cs.toArray := rfl
  simp only [Int.toNat_natCast, hsz, hcs, made_flat] at hr
  exact hr
def manyF (x : Int) : Nat := (min (max x 0) 1024).toNat
def newSt (n : Nat) : St := { st := List.replicate n zsec, nw := List.replicate n zsec, pend := [], ops := 0, left := -1, dead := false }
theorem new_in (x : Int) (w : World) (n : Nat) (hn : n = manyF x) (fl : Array Value) (hfl : fl = (flat (List.replicate n zsec)).toArray) (V : Int) (hV : V = n) (hx : V = min (max x 0) 1024) : Calls Try.prog 23 #[.int .i64 x] w fun e w' =>
    ∃ D : Dev, e = .returned (.pointer (some ⟨D.g, 0, none⟩)) ∧ At w' w.heap.size (manyF x) D (.slice none 0 0) (newSt (manyF x)) ∧ Below w.heap.size w w' := by
  have HN := Lib.hid (show manyF x ≤ 1024 by unfold manyF; omega)
  have hk : ∀ w, (Instr.makeSlice 70 (.int .i64 V) (.int .i64 V)).run Try.prog w = .ok (.slice (some ⟨w.heap.size, 0, none⟩) n n) (w.alloc (.cells fl 46)) := fun w => by
    rw [hV, hfl]
    exact run_make_sec n (by rw [hn]; exact HN.out) w
  have HE : ∀ (g gs gn : Nat) (w' : World), Hid (gs ≠ gn → w.heap.size ≤ g → w.heap.size ≤ gs → w.heap.size ≤ gn → Blk w' gs 46 fl → Blk w' gn 46 fl →
      Blk w' g 73 #[.slice (some ⟨gs, 0, none⟩) n n, .slice (some ⟨gn, 0, none⟩) n n, .slice none 0 0, .int .i64 0, .int .i64 (-1), .bool false] → At w' w.heap.size (manyF x) ⟨g, gs, gn⟩ (.slice none 0 0) (newSt (manyF x))) := by
    intro g gs gn w' h1 h2 h3 h4 h5 h6 h7
    subst hn
    rw [hfl] at h5 h6
    exact { dev := h7, st := h5, nw := h6, pend := World.ownsRow_nil _ _ _ _, ne := h1, bg := ⟨h2, h3, h4⟩, ls := List.length_replicate .., ln := List.length_replicate .., ok := fun _ h => by (cases h), hn := HN.out, ops := by simp [newSt], left := by simp [newSt, I64] }
  have HA : ∀ (c1 c2 c3 : Array Value), Hid (Blk (((w.alloc (.cells c1 46)).alloc (.cells c2 46)).alloc (.cells c3 73)).drew w.heap.size 46 c1 ∧
      Blk (((w.alloc (.cells c1 46)).alloc (.cells c2 46)).alloc (.cells c3 73)).drew (w.heap.size + 1) 46 c2) := fun c1 c2 c3 => by
    have h1 := Blk.new w 46 c1
    have h2 := Blk.new (w.alloc (.cells c1 46)) 46 c2
    have hn : (w.alloc (.cells c1 46)).heap.size = w.heap.size + 1 := by simp
    rw [hn] at h2
    exact ⟨(h1.chg ((Chg.refl _ (fun _ => False)).alloc _) id).chg ((Chg.refl _ (fun _ => False)).alloc _).drew id, h2.chg (O := fun _ => False) ((Chg.refl _ (fun _ => False)).alloc _).drew id⟩
  have HD : ∀ (c1 c2 c3 : Array Value), Hid (Blk (((w.alloc (.cells c1 46)).alloc (.cells c2 46)).alloc (.cells c3 73)).drew (w.heap.size + 1 + 1) 73 c3) := fun c1 c2 c3 => by
    have h3 := Blk.new ((w.alloc (.cells c1 46)).alloc (.cells c2 46)) 73 c3
    have hn : ((w.alloc (.cells c1 46)).alloc (.cells c2 46)).heap.size = w.heap.size + 1 + 1 := by simp
    rw [hn] at h3
    exact h3
  have HB : ∀ (c1 c2 c3 : Array Value), Hid (Below w.heap.size w (((w.alloc (.cells c1 46)).alloc (.cells c2 46)).alloc (.cells c3 73)).drew) := fun c1 c2 c3 =>
    ((((Below.refl _ _).alloc (Nat.le_refl _) _).alloc (by simp) _).alloc (by simp; omega) _).drew
  clear hfl hV HN hn
  rcases Int.lt_trichotomy x 0 with h | h | h
  · obtain rfl : V = 0 := by omega
    clear hx
    go_enter Try.func23, Try.ntmps23
    go_wp2_with fail
    go_region
    all_goals (go_wp2_with fail)
    all_goals go_ret
    · exact ⟨⟨_, _, _⟩, rfl, (HE _ w.heap.size (w.heap.size + 1) _).out (by omega) (by omega) (by omega) (by omega) (HA fl fl _).out.1 (HA fl fl _).out.2 (HD _ _ _).out, (HB _ _ _).out⟩
    · exact ⟨⟨_, _, _⟩, rfl, (HE _ (w.heap.size + 1) w.heap.size _).out (by omega) (by omega) (by omega) (by omega) (HA fl fl _).out.2 (HA fl fl _).out.1 (HD _ _ _).out, (HB _ _ _).out⟩
  · obtain rfl : V = 0 := by omega
    clear hx
    subst h
    go_enter Try.func23, Try.ntmps23
    go_wp2_with fail
    go_region
    all_goals (go_wp2_with fail)
    all_goals go_ret
    · exact ⟨⟨_, _, _⟩, rfl, (HE _ w.heap.size (w.heap.size + 1) _).out (by omega) (by omega) (by omega) (by omega) (HA fl fl _).out.1 (HA fl fl _).out.2 (HD _ _ _).out, (HB _ _ _).out⟩
    · exact ⟨⟨_, _, _⟩, rfl, (HE _ (w.heap.size + 1) w.heap.size _).out (by omega) (by omega) (by omega) (by omega) (HA fl fl _).out.2 (HA fl fl _).out.1 (HD _ _ _).out, (HB _ _ _).out⟩
  · by_cases h2 : x ≤ 1024
    · obtain rfl : V = x := by omega
      clear hx
      go_enter Try.func23, Try.ntmps23
      go_wp2_with fail
      go_region
      all_goals (go_wp2_with fail)
      all_goals go_ret
      · exact ⟨⟨_, _, _⟩, rfl, (HE _ w.heap.size (w.heap.size + 1) _).out (by omega) (by omega) (by omega) (by omega) (HA fl fl _).out.1 (HA fl fl _).out.2 (HD _ _ _).out, (HB _ _ _).out⟩
      · exact ⟨⟨_, _, _⟩, rfl, (HE _ (w.heap.size + 1) w.heap.size _).out (by omega) (by omega) (by omega) (by omega) (HA fl fl _).out.2 (HA fl fl _).out.1 (HD _ _ _).out, (HB _ _ _).out⟩
    · obtain rfl : V = 1024 := by omega
      clear hx
      go_enter Try.func23, Try.ntmps23
      go_wp2_with fail
      go_region
      all_goals (go_wp2_with fail)
      all_goals go_ret
      · exact ⟨⟨_, _, _⟩, rfl, (HE _ w.heap.size (w.heap.size + 1) _).out (by omega) (by omega) (by omega) (by omega) (HA fl fl _).out.1 (HA fl fl _).out.2 (HD _ _ _).out, (HB _ _ _).out⟩
      · exact ⟨⟨_, _, _⟩, rfl, (HE _ (w.heap.size + 1) w.heap.size _).out (by omega) (by omega) (by omega) (by omega) (HA fl fl _).out.2 (HA fl fl _).out.1 (HD _ _ _).out, (HB _ _ _).out⟩
theorem new_any (x : Int) (w : World) : Calls Try.prog 23 #[.int .i64 x] w fun e w' =>
    ∃ D : Dev, e = .returned (.pointer (some ⟨D.g, 0, none⟩)) ∧ At w' w.heap.size (manyF x) D (.slice none 0 0) (newSt (manyF x)) ∧ Below w.heap.size w w' :=
  new_in x w _ rfl _ rfl _ rfl (by unfold manyF; omega)
end
section
open Go.RowKit
/-- A sector is loaded in a region that draws its order and ends in what writes. -/
theorem still_ld {ops : Array Oper} {rest : List Oper} {o : Oper} {a : Act} {w : World} {Q : Act → Prop} (hgd : o.guard = none) (x : Operand) (ho : o.op = .load 46 x)
    (b k : Nat) (s : Sec) (hx : a.eval x = .pointer (some ⟨b, k, none⟩)) (hr : w.rangeAt b k s.cs)
    (h : wpStill Try.prog ops w Q rest (a.put o.dst (.agg s.cs.toArray))) : wpStill Try.prog ops w Q (o :: rest) a := by
  refine wpStill_step fun K hK => ?_
  have hw : Region.wanted o (yielded ops a.tmps) = true := by simp [Region.wanted, hgd]
  rw [if_pos hw]
  unfold Oper.still execOp
  simp only [ho, hx, run_loadAt_mid w b k _ s.cs _ hr Try.underlying46 rfl (sizeSec' s), Sem.run_bind, Sem.run_pure, Result.andThen_ok]
  exact ⟨rfl, hK _ h⟩
/-! ### Steps of a region that draws its order, one by one -/
theorem step_val {P : Program} {ops : Array Oper} {o : Oper} {a : Act} {w w' : World} {K : Act → World → Prop} {Q : Exit → Act → World → Prop} {E : Prop} (hgd : o.guard = none) (v : Value)
    (hrun : (execOp a.eval o).run P w = .ok (.value v) w') (h : K (a.put o.dst v) w') : if Region.wanted o (yielded ops a.tmps) = true then Oper.wp P o a w K Q else E := by
  have hw : Region.wanted o (yielded ops a.tmps) = true := by simp [Region.wanted, hgd]
  rw [if_pos hw]
  unfold Oper.wp
  rw [hrun]
  exact h
theorem step_skip {P : Program} {ops : Array Oper} {o : Oper} {a : Act} {w w' : World} {K : Act → World → Prop} {Q : Exit → Act → World → Prop} {E : Prop} (hgd : o.guard = none)
    (hrun : (execOp a.eval o).run P w = .ok .skip w') (h : K (a.put o.dst undef) w') : if Region.wanted o (yielded ops a.tmps) = true then Oper.wp P o a w K Q else E := by
  have hw : Region.wanted o (yielded ops a.tmps) = true := by simp [Region.wanted, hgd]
  rw [if_pos hw]
  unfold Oper.wp
  rw [hrun]
  exact h
theorem ex_ld {o : Oper} {a : Act} {w : World} (x : Operand) (ho : o.op = .load 46 x) (b k : Nat) (s : Sec) (hx : a.eval x = .pointer (some ⟨b, k, none⟩)) (hr : w.rangeAt b k s.cs) :
    (execOp a.eval o).run Try.prog w = .ok (.value (.agg s.cs.toArray)) w := by
  unfold execOp
  simp only [ho, hx, run_loadAt_mid w b k _ s.cs _ hr Try.underlying46 rfl (sizeSec' s), Sem.run_bind, Sem.run_pure, Result.andThen_ok]
theorem ex_ld1 {P : Program} {o : Oper} {a : Act} {w : World} (ty e : TypeId) (x : Operand) (ho : o.op = .load ty x) (hu : P.underlying ty = some (.slice e)) (b k : Nat) (v : Value) (hx : a.eval x = .pointer (some ⟨b, k, none⟩)) (hr : w.cell? ⟨b, k, none⟩ = some v) :
    (execOp a.eval o).run P w = .ok (.value v) w := by
  have hagg : (isAgg ty).run P w = .ok false w := by
    unfold isAgg
    rw [Sem.run_bind, run_underlying hu w]
    rfl
  unfold execOp
  simp [ho, hx, Instr.loadAt, Instr.sureAddr, loadVar, hagg, hr]
theorem ex_buildW {o : Oper} {a : Act} {w : World} (x y : Operand) (ho : o.op = .build 75 #[(0, x), (1, y)]) (k : Nat) (s : Sec) (hx : a.eval x = .int .i64 (k : Int)) (hy : a.eval y = .agg s.cs.toArray) :
    (execOp a.eval o).run Try.prog w = .ok (.value (.agg (wcs (k, s)).toArray)) w := by
  unfold execOp
  have hb := buildW k s w
  rw [← hx, ← hy] at hb
  simp only [ho, List.map_toArray, List.map_cons, List.map_nil, hb, Sem.run_bind, Sem.run_pure, Result.andThen_ok]
/-- A slice of one element, written out, its cells whatever. -/
theorem run_bsl1 {P : Program} {t e : TypeId} {z : Value} {sz bytes : Nat} (hT : P.underlying t = some (.slice e)) (hinfo : (P.info? e).map (fun i => (i.zero, i.size, i.bytes)) = some (some z, sz, bytes)) (h0 : 0 < sz) (h1 : sz ≤ 16777216)
    (l : List Value) (hl : l.length = sz) (v : Value) (hv : v.cells = l.toArray) (w : World) : (Instr.buildSlice t 1 #[(0, v)]).run P w = .ok (.slice (some ⟨w.heap.size, 0, none⟩) 1 1) (w.alloc (.cells l.toArray e)) := by
  obtain ⟨i, hi, hz, hsz, _⟩ := info_parts hinfo
  have hf : ∀ cs : Array Value, cs.size = sz → Instr.fill (fun i => some (i * sz, sz)) cs [(0, v)] = some l.toArray := by
    intro cs hcs
    have h2 : l.toArray.size = sz := by rw [List.size_toArray, hl]
    unfold Instr.fill
    simp only [hv, h2, hcs, Nat.zero_mul, Nat.zero_add, ne_eq, not_true_eq_false, decide_false, Bool.false_or, Nat.lt_irrefl, gt_iff_lt]
    rw [if_neg (by simp)]
    unfold Instr.fill
    refine congrArg some (Array.ext_getElem? fun k => ?_)
    have e2 : l.toArray.zipIdx.foldl (fun cs (c, j) => cs.setIfInBounds j c) cs = (l.zipIdx 0).foldl (fun cs x => cs.setIfInBounds (0 + x.2) x.1) cs := by
      rw [← Array.foldl_toList, Array.toList_zipIdx]
      simp only [Nat.zero_add]
    have e3 : l.toArray[k]? = l[k]? := List.getElem?_toArray ..
    rw [e2, (foldl_zip 0 l 0 cs (by omega)).2 k, e3]
    by_cases hk : k < l.length
    · rw [if_pos (by omega)]; rfl
    · rw [if_neg (by omega), List.getElem?_eq_none (Nat.le_of_not_lt hk), Array.getElem?_eq_none (by omega)]
  have hne : ¬ sz = 0 := by omega
  have hlt : ¬ 2 ^ 24 < sz := by omega
  have hf' := hf ((Array.range (1 * sz)).map (z.cells[· % z.cells.size]!)) (by simp)
  rw [Nat.one_mul] at hf'
  simp [Instr.buildSlice, run_underlying hT, sizeOf, typeInfo, zeroValue, hi, hz, hsz, hne, hlt, hf', newRow, newObj]
  rfl
theorem ex_bslW {o : Oper} {a : Act} {w : World} (y : Operand) (ho : o.op = .buildSlice 71 1 #[(0, y)]) (p : Nat × Sec) (hy : a.eval y = .agg (wcs p).toArray) :
    (execOp a.eval o).run Try.prog w = .ok (.value (.slice (some ⟨w.heap.size, 0, none⟩) 1 1)) (w.alloc (.cells (wcs p).toArray 75)) := by
  have hb := run_bsl1 Try.underlying71 infoW (by omega) (by omega) (wcs p) (wcs_len p) (.agg (wcs p).toArray) rfl w
  unfold execOp
  simp only [ho, List.map_toArray, List.map_cons, List.map_nil, hy, hb, Sem.run_bind, Sem.run_pure, Result.andThen_ok]
section
variable {w : World} {B n : Nat} {D : Dev} {pv : Value} {s : St}
theorem At.own_gs (h : At w B n D pv s) (k : Nat) (hk : k = D.gs) : k ≠ D.g ∧ k ≠ D.gn ∧ pv.ownBlock ≠ some k := by
  subst hk
  refine ⟨blk_ne h.st h.dev (by decide), h.ne, fun e => ?_⟩
  obtain ⟨cs, hb⟩ := own_blk h.pend e
  exact blk_ne hb h.st (by decide) rfl
theorem At.own_gn (h : At w B n D pv s) (k : Nat) (hk : k = D.gn) : k ≠ D.g ∧ k ≠ D.gs ∧ pv.ownBlock ≠ some k := by
  subst hk
  refine ⟨blk_ne h.nw h.dev (by decide), Ne.symm h.ne, fun e => ?_⟩
  obtain ⟨cs, hb⟩ := own_blk h.pend e
  exact blk_ne hb h.nw (by decide) rfl
theorem At.own_g (h : At w B n D pv s) (k : Nat) (hk : k = D.g) : k ≠ D.gs ∧ k ≠ D.gn ∧ pv.ownBlock ≠ some k := by
  subst hk
  refine ⟨blk_ne h.dev h.st (by decide), blk_ne h.dev h.nw (by decide), fun e => ?_⟩
  obtain ⟨cs, hb⟩ := own_blk h.pend e
  exact blk_ne hb h.dev (by decide) rfl
theorem At.set_nw (h : At w B n D pv s) (k : Nat) (x : Sec) (hk : k < n) : At (w.setCells D.gn (k * 128) x.cs) B n D pv { s with nw := s.nw.set k x } := by
  have hc : Chg w (w.setCells D.gn (k * 128) x.cs) (· = D.gn) := Chg.setCells (O := (· = D.gn)) (.inl rfl) _ _ (Chg.refl _ _)
  obtain ⟨h1, h2, h3⟩ := h.own_gn _ rfl
  exact { h with
    dev := h.dev.chg hc (Ne.symm h1)
    st := h.st.chg hc (Ne.symm h2)
    nw := h.nw.setSec k x (by rw [h.ln]; exact hk)
    pend := own_chg h.pend hc fun g hg e => h3 (e ▸ hg)
    ln := by rw [List.length_set, h.ln] }
theorem At.set_st (h : At w B n D pv s) (k : Nat) (x : Sec) (hk : k < n) : At (w.setCells D.gs (k * 128) x.cs) B n D pv { s with st := s.st.set k x } := by
  have hc : Chg w (w.setCells D.gs (k * 128) x.cs) (· = D.gs) := Chg.setCells (O := (· = D.gs)) (.inl rfl) _ _ (Chg.refl _ _)
  obtain ⟨h1, h2, h3⟩ := h.own_gs _ rfl
  exact { h with
    dev := h.dev.chg hc (Ne.symm h1)
    nw := h.nw.chg hc (Ne.symm h2)
    st := h.st.setSec k x (by rw [h.ls]; exact hk)
    pend := own_chg h.pend hc fun g hg e => h3 (e ▸ hg)
    ls := by rw [List.length_set, h.ls] }
theorem At.drew (h : At w B n D pv s) : At w.drew B n D pv s := h.chg (O := fun _ => False) ((Chg.refl _ _).drew) fun _ _ h => h
theorem Goes.set {w0 w : World} (h : Goes D w0 pv w pv) (g k : Nat) (vs : List Value) (hg : D.own pv g ∨ w0.heap.size ≤ g) : Goes D w0 pv (w.setCells g k vs) pv := ⟨Chg.setCells hg _ _ h.chg, h.row⟩
/-- The pending writes have become another row. -/
theorem At.set_pend {w' : World} {pv' : Value} {ps : List (Nat × Sec)} (h : At w B n D pv s) (hc : Chg w w' (fun k => pv.ownBlock = some k)) (ho : w'.ownsRow B 75 129 pv' ps.length (flatW ps)) (hok : ∀ p ∈ ps, p.1 < n) :
    At (w'.setCell ⟨D.g, 2, none⟩ pv') B n D pv' { s with pend := ps } := by
  have h1 := h.dev.chg hc (h.own_g _ rfl).2.2
  have h2 := h.st.chg hc (h.own_gs _ rfl).2.2
  have h3 := h.nw.chg hc (h.own_gn _ rfl).2.2
  have hs := h1.set_ 2 pv'
  have hc2 := (Chg.refl w' (· = D.g)).setCell (p := ⟨D.g, 2, none⟩) (.inl rfl) pv'
  exact { h with
    dev := hs
    st := h2.chg hc2 (blk_ne h2 h1 (by decide))
    nw := h3.chg hc2 (blk_ne h3 h1 (by decide))
    pend := own_chg ho hc2 fun g hg => by
      obtain ⟨cs, hb⟩ := own_blk ho hg
      exact blk_ne hb h1 (by decide)
    ok := hok }

set_option maxHeartbeats 4000000 in
theorem write_ok (h : At w B n D pv s) (k : Nat) (x : Sec) (hk : k < n) (hp : Hid (s.pend.length ≤ 1000000)) (hd : s.count.refuse.dead = false) :
    Calls Try.prog 50 #[.pointer (some ⟨D.g, 0, none⟩), .int .i64 (k : Int), .agg x.cs.toArray] w fun e w' =>
    ∃ pv', e = .returned (.int .i64 0) ∧ At w' B n D pv' { s.count.refuse with nw := s.nw.set k x, pend := s.pend ++ [(k, x)] } ∧ Goes D w pv w' pv' := by
  have ha := h.alloc (.cells x.cs.toArray 46)
  have hfar := Lib.hid h.new_far
  have HG : ∀ w' pv', Hid (Goes D (w.alloc (.cells x.cs.toArray 46)) pv w' pv' → Goes D w pv w' pv') := fun _ _ g => g.behind
  have HA := Lib.hid ha
  have HS := Lib.hid (refuse_st s.count)
  clear h ha
  have hbl := Lib.hid (Blk.new w 46 x.cs.toArray)
  have HL := Lib.hid (show w.heap.size < (w.alloc (.cells x.cs.toArray 46)).heap.size by simp)
  generalize hg0 : w.heap.size = g0 at *
  go_enter Try.func50, Try.ntmps50
  go_wp2_with fail
  refine (count_any HA.out).mono ?_
  rintro e w1 ⟨rfl, hA1, hG1⟩
  have hb1 := Lib.hid (hbl.out.chg hG1.chg hfar.out)
  have hG2 := Lib.hid ((HG _ _).out hG1)
  have hA := Lib.hid hA1
  clear HA hbl hG1 hA1 HG HL
  go_wp2_with fail
  refine (vhas_any hA.out _).mono ?_
  rintro e w1 ⟨rfl, rfl⟩
  have hh : hasF n (k : Int) = true := by unfold hasF; rw [decide_eq_true_iff]; omega
  rw [hh]
  go_wp2_with fail
  refine (refuses_any hA.out).mono ?_
  rintro e w2 ⟨rfl, hA1, hG1⟩
  rw [hd]
  clear hd
  have hb2 := Lib.hid (hb1.out.chg hG1.chg hfar.out)
  have hG3 := Lib.hid (hG2.out.trans hG1)
  have hA2 := Lib.hid hA1
  clear hA hb1 hG2 hG1 hh hA1
  have hki : (k : Int) < n := by omega
  go_wp2_with fail
  refine wp_region_still_tail 7 (by kernel_rfl) (by kernel_rfl) ?_
  simp only [List.take_succ_cons, List.take_zero, List.drop_succ_cons, List.drop_zero]
  change wpStill _ _ w2.drew _ _ _
  have hA3 : Hid (At w2.drew B n D pv s.count.refuse) := hA2.out.drew
  have hb3 : Hid (Blk w2.drew g0 46 x.cs.toArray) := hb2.out
  have hG4 : Hid (Goes D w pv w2.drew pv) := ⟨hG3.out.chg.drew, hG3.out.row⟩
  clear hA2 hb2 hG3
  change wpStill _ _ _ (fun a' => wpList _ _ _ _ a' w2.drew) _ _
  generalize w2.drew = w3 at *
  obtain ⟨_, h1, _⟩ := hA3.out.fields
  have hr3 := Lib.hid hb3.out.secIs
  have ht3 := Lib.hid (hA3.out.nw.secThere k (by rw [hA3.out.ln]; exact hk))
  iterate 5 still_step
  with_reducible refine still_ld rfl _ rfl g0 0 x rfl hr3.out ?_
  still_step
  refine wpStill_nil ?_
  go_wp2_with (with_reducible refine st_sec rfl _ _ rfl D.gn (k * 128) x rfl rfl ht3.out ?_; intro w4 hw4)
  have hA4 := Lib.hid (hA3.out.set_nw k x hk)
  have hG5 := Lib.hid (hG4.out.set D.gn (k * 128) x.cs (.inl (.inr (.inr (.inl rfl)))))
  have hb4 : Hid (Blk (w3.setCells D.gn (k * 128) x.cs) g0 46 x.cs.toArray) := hb3.out.chg (Chg.setCells (O := (· = D.gn)) (.inl rfl) _ _ (Chg.refl _ _)) fun e => hfar.out (e ▸ .inr (.inr (.inl rfl)))
  rw [← hw4.out] at hA4 hG5 hb4
  clear hw4 hA3 hb3 hG4 hr3 ht3 h1
  have hi5 := info_parts infoW
  obtain ⟨i0, hi0, hz0, hz1, hz2⟩ := hi5
  have hzs : Hid ((Value.agg (wcs (0, zsec)).toArray).cells.size = 129) := by
    show (wcs (0, zsec)).toArray.size = 129
    rw [List.size_toArray, wcs_len]
  refine wp_region_any (by kernel_rfl) ?_
  change wpAny _ _ _ _ _ _ _ (World.drew w4)
  have hA5 : Hid (At w4.drew B n D pv { s.count.refuse with nw := s.nw.set k x }) := by
    have h := hA4.out.drew
    rw [HS.out.2.1] at h
    exact h
  have hb5 : Hid (Blk w4.drew g0 46 x.cs.toArray) := hb4.out
  have hG6 : Hid (Goes D w pv w4.drew pv) := ⟨hG5.out.chg.drew, hG5.out.row⟩
  clear hA4 hb4 hG5
  generalize w4.drew = w5 at *
  have hr5 := Lib.hid hb5.out.secIs
  obtain ⟨_, _, h2, _⟩ := hA5.out.fields
  have hgl : D.g < w5.heap.size := hA5.out.dev.lt
  have h2b : (w5.alloc (.cells (wcs (k, x)).toArray 75)).cell? ⟨D.g, 2, none⟩ = some pv := by rw [World.cell?_alloc_lt _ _ _ hgl]; exact h2
  have hown := Lib.hid (World.ownsRow.alloc hA5.out.pend (.cells (wcs (k, x)).toArray 75))
  have hnew := Lib.hid (World.news_of_block (heap_alloc_new w5 (.cells (wcs (k, x)).toArray 75)))
  have hpl : Hid (s.count.refuse.pend = s.pend) := HS.out.2.2.1
  have hmx : Hid (s.count.refuse.pend.length + 1 ≤ maxLen) := by
    show _ ≤ _
    rw [hpl.out]
    have := hp.out
    simp only [maxLen]
    omega
  have hby : Hid ((s.count.refuse.pend.length + 1) * 136 ≤ 140737488355328) := by
    show _ ≤ _
    rw [hpl.out]
    have := hp.out
    omega
  have hbs : Hid (B ≤ (w5.alloc (.cells (wcs (k, x)).toArray 75)).heap.size) := by
    show _ ≤ _
    have := hA5.out.bg.1
    simp
    omega
  have hfin : ∀ gg cap w6, Hid (w6.ownsRow B 75 129 (.slice (some ⟨gg, 0, none⟩) (s.count.refuse.pend.length + 1) cap) (s.count.refuse.pend.length + 1) (flatW s.count.refuse.pend ++ wcs (k, x)) →
      (w5.alloc (.cells (wcs (k, x)).toArray 75)).grownBy w6 pv.ownBlock → (pv.ownBlock = some gg ∨ gg = (w5.alloc (.cells (wcs (k, x)).toArray 75)).heap.size) →
      At (w6.setCell ⟨D.g, 2, none⟩ (.slice (some ⟨gg, 0, none⟩) (s.count.refuse.pend.length + 1) cap)) B n D (.slice (some ⟨gg, 0, none⟩) (s.count.refuse.pend.length + 1) cap) { s.count.refuse with nw := s.nw.set k x, pend := s.pend ++ [(k, x)] } ∧
      Goes D w pv (w6.setCell ⟨D.g, 2, none⟩ (.slice (some ⟨gg, 0, none⟩) (s.count.refuse.pend.length + 1) cap)) (.slice (some ⟨gg, 0, none⟩) (s.count.refuse.pend.length + 1) cap) ∧
      w6.cell? ⟨D.g, 2, none⟩ = some pv ∧ w6.frozen? ⟨D.g, 2, none⟩ = false) := by
    intro gg cap w6 ho hg hat
    rw [hpl.out] at ho ⊢
    have hl : (s.pend ++ [(k, x)]).length = s.pend.length + 1 := by simp
    rw [← flatW_snoc, ← hl] at ho
    rw [← hl]
    have hcg : Chg w5 w6 (fun k => pv.ownBlock = some k) := ((Chg.refl _ _).alloc _).grown hg fun _ hk => .inl hk
    have hd6 := hA5.out.dev.chg hcg (hA5.out.own_g _ rfl).2.2
    have hok := hA5.out.ok
    refine ⟨hA5.out.set_pend hcg ho fun p hpm => ?_, ⟨(hG6.out.chg.trans hcg fun j _ hj => .inr (.inr (.inr hj))).setCell (.inl (.inl rfl)) _, fun j hj => ?_⟩, hd6.cell 2, hd6.frozen 2⟩
    · rcases List.mem_append.1 hpm with h | h
      · exact hok p (by rw [hpl.out]; exact h)
      · obtain rfl : p = (k, x) := by simpa using h
        exact hk
    · simp only [Value.ownBlock, Option.some.injEq] at hj
      subst hj
      rcases hat with h | h
      · exact .inl h
      · have := hG6.out.chg.size
        simp at h
        exact .inr (by omega)
  refine wpAny_take (i := 0) (v := ?_) rfl (by kernel_rfl) (by kernel_rfl) (by kernel_rfl) (fun _ _ _ h => h) (Or.inl ⟨by rfl, ?_⟩) ?_
  rotate_left
  · intro w; go_simp; try with_reducible rfl
  simp [Act.put]
  refine wpAny_take (i := 1) (v := ?_) rfl (by kernel_rfl) (by kernel_rfl) (by kernel_rfl) (fun _ _ _ h => h) (Or.inl ⟨by rfl, ?_⟩) ?_
  rotate_left
  · intro w; go_simp; try with_reducible rfl
  simp [Act.put]
  refine wpAny_take (i := 5) (v := ?_) rfl (by kernel_rfl) (by kernel_rfl) (by kernel_rfl) (fun _ _ _ h => h) (Or.inl ⟨by rfl, ?_⟩) ?_
  rotate_left
  · intro w; go_simp; try with_reducible rfl
  simp [Act.put]
  refine wpAny_take (i := 2) (v := ?_) rfl (by kernel_rfl) (by kernel_rfl) (by kernel_rfl) (fun _ _ _ h => h) (Or.inl ⟨by rfl, ?_⟩) ?_
  rotate_left
  · intro w; go_simp; try with_reducible rfl
  simp [Act.put]
  refine wpAny_take (i := 3) (v := ?_) rfl (by kernel_rfl) (by kernel_rfl) (by kernel_rfl) (fun _ _ _ h => h) (Or.inl ⟨by rfl, ?_⟩) ?_
  rotate_left
  · intro w; go_simp; try with_reducible rfl
  simp [Act.put]
  refine wpAny_ready (rs := [4, 6]) (by kernel_rfl) (by simp) ?_
  refine AllReady.cons rfl (fun K hK => ?_) (AllReady.cons rfl (fun K hK => ?_) AllReady.nil)
  · refine step_val (w' := w5) rfl pv (ex_ld1 71 75 (.tmp 27) rfl Try.underlying71 D.g 2 pv rfl h2) ?_
    refine hK _ _ ?_
    clear hK K
    simp [Act.put]
    refine wpAny_ready (rs := [6]) (by kernel_rfl) (by simp) ?_
    refine AllReady.cons rfl (fun K hK => ?_) AllReady.nil
    refine step_val (w' := w5) rfl (.agg x.cs.toArray) (ex_ld (.tmp 5) rfl g0 0 x rfl hr5.out) ?_
    refine hK _ _ ?_
    clear hK K
    simp [Act.put]
    refine wpAny_take (i := 7) (v := .agg (wcs (k, x)).toArray) rfl (by kernel_rfl) (by kernel_rfl) (by kernel_rfl) (fun _ _ _ h => h) (Or.inl ⟨by rfl, ?_⟩) ?_
    · intro w
      exact ex_buildW (.tmp 29) (.tmp 30) rfl k x rfl rfl
    simp [Act.put]
    refine wpAny_ready (rs := [8]) (by kernel_rfl) (by simp) ?_
    refine AllReady.cons rfl (fun K hK => ?_) AllReady.nil
    refine step_val (w' := (w5.alloc (.cells (wcs (k, x)).toArray 75))) rfl (.slice (some ⟨w5.heap.size, 0, none⟩) 1 1) (ex_bslW (.tmp 31) rfl (k, x) rfl) ?_
    refine hK _ _ ?_
    clear hK K
    simp [Act.put]
    refine wpAny_ready (rs := [9]) (by kernel_rfl) (by simp) ?_
    refine AllReady.cons rfl (fun K hK => ?_) AllReady.nil
    refine step_append_lies _ rfl (.tmp 28) (.tmp 32) 71 rfl B 75 i0 _ 129 136 Try.underlying71 hi0 hz0 hz1 hz2 (hzs.out) (by omega) pv _ _ rfl hown.out
      ⟨w5.heap.size, 0, none⟩ 1 1 (wcs (k, x)) rfl (by rw [wcs_len]) hnew.out (wcs_one _) (by omega) hmx.out hby.out hbs.out _ rfl ?_
    intro gg cap w6 ho6 hgrow hat hlt6
    refine hK _ _ ?_
    clear hK K
    simp [Act.put]
    obtain ⟨hA6, hG6, hc6, hf6⟩ := (hfin gg cap w6).out ho6 hgrow hat
    refine wpAny_take (i := 10) (v := ?_) rfl (by kernel_rfl) (by kernel_rfl) (by kernel_rfl) (fun _ _ _ h => h) (Or.inl ⟨by rfl, ?_⟩) ?_
    rotate_left
    · intro w; go_simp; try with_reducible rfl
    simp [Act.put]
    refine wpAny_take (i := 11) (v := ?_) rfl (by kernel_rfl) (by kernel_rfl) (by kernel_rfl) (fun _ _ _ h => h) (Or.inl ⟨by rfl, ?_⟩) ?_
    rotate_left
    · intro w; go_simp; try with_reducible rfl
    simp [Act.put]
    refine wpAny_ready (rs := [12]) (by kernel_rfl) (by simp) ?_
    refine AllReady.cons rfl (fun K hK => ?_) AllReady.nil
    refine step_skip (w' := w6.setCell ⟨D.g, 2, none⟩ (.slice (some ⟨gg, 0, none⟩) (s.count.refuse.pend.length + 1) cap)) rfl (by go_simp) ?_
    refine hK _ _ ?_
    clear hK K
    simp [Act.put]
    refine wpAny_done (by kernel_rfl) ?_ _
    go_wp2_with fail
    go_ret
    exact ⟨rfl, _, hA6, hG6⟩
  · refine step_val (w' := w5) rfl (.agg x.cs.toArray) (ex_ld (.tmp 5) rfl g0 0 x rfl hr5.out) ?_
    refine hK _ _ ?_
    clear hK K
    simp [Act.put]
    refine wpAny_take (i := 7) (v := .agg (wcs (k, x)).toArray) rfl (by kernel_rfl) (by kernel_rfl) (by kernel_rfl) (fun _ _ _ h => h) (Or.inl ⟨by rfl, ?_⟩) ?_
    · intro w
      exact ex_buildW (.tmp 29) (.tmp 30) rfl k x rfl rfl
    simp [Act.put]
    refine wpAny_ready (rs := [4, 8]) (by kernel_rfl) (by simp) ?_
    refine AllReady.cons rfl (fun K hK => ?_) (AllReady.cons rfl (fun K hK => ?_) AllReady.nil)
    · refine step_val (w' := w5) rfl pv (ex_ld1 71 75 (.tmp 27) rfl Try.underlying71 D.g 2 pv rfl h2) ?_
      refine hK _ _ ?_
      clear hK K
      simp [Act.put]
      refine wpAny_ready (rs := [8]) (by kernel_rfl) (by simp) ?_
      refine AllReady.cons rfl (fun K hK => ?_) AllReady.nil
      refine step_val (w' := (w5.alloc (.cells (wcs (k, x)).toArray 75))) rfl (.slice (some ⟨w5.heap.size, 0, none⟩) 1 1) (ex_bslW (.tmp 31) rfl (k, x) rfl) ?_
      refine hK _ _ ?_
      clear hK K
      simp [Act.put]
      refine wpAny_ready (rs := [9]) (by kernel_rfl) (by simp) ?_
      refine AllReady.cons rfl (fun K hK => ?_) AllReady.nil
      refine step_append_lies _ rfl (.tmp 28) (.tmp 32) 71 rfl B 75 i0 _ 129 136 Try.underlying71 hi0 hz0 hz1 hz2 (hzs.out) (by omega) pv _ _ rfl hown.out
        ⟨w5.heap.size, 0, none⟩ 1 1 (wcs (k, x)) rfl (by rw [wcs_len]) hnew.out (wcs_one _) (by omega) hmx.out hby.out hbs.out _ rfl ?_
      intro gg cap w6 ho6 hgrow hat hlt6
      refine hK _ _ ?_
      clear hK K
      simp [Act.put]
      obtain ⟨hA6, hG6, hc6, hf6⟩ := (hfin gg cap w6).out ho6 hgrow hat
      refine wpAny_take (i := 10) (v := ?_) rfl (by kernel_rfl) (by kernel_rfl) (by kernel_rfl) (fun _ _ _ h => h) (Or.inl ⟨by rfl, ?_⟩) ?_
      rotate_left
      · intro w; go_simp; try with_reducible rfl
      simp [Act.put]
      refine wpAny_take (i := 11) (v := ?_) rfl (by kernel_rfl) (by kernel_rfl) (by kernel_rfl) (fun _ _ _ h => h) (Or.inl ⟨by rfl, ?_⟩) ?_
      rotate_left
      · intro w; go_simp; try with_reducible rfl
      simp [Act.put]
      refine wpAny_ready (rs := [12]) (by kernel_rfl) (by simp) ?_
      refine AllReady.cons rfl (fun K hK => ?_) AllReady.nil
      refine step_skip (w' := w6.setCell ⟨D.g, 2, none⟩ (.slice (some ⟨gg, 0, none⟩) (s.count.refuse.pend.length + 1) cap)) rfl (by go_simp) ?_
      refine hK _ _ ?_
      clear hK K
      simp [Act.put]
      refine wpAny_done (by kernel_rfl) ?_ _
      go_wp2_with fail
      go_ret
      exact ⟨rfl, _, hA6, hG6⟩
    · refine step_val (w' := (w5.alloc (.cells (wcs (k, x)).toArray 75))) rfl (.slice (some ⟨w5.heap.size, 0, none⟩) 1 1) (ex_bslW (.tmp 31) rfl (k, x) rfl) ?_
      refine hK _ _ ?_
      clear hK K
      simp [Act.put]
      refine wpAny_ready (rs := [4]) (by kernel_rfl) (by simp) ?_
      refine AllReady.cons rfl (fun K hK => ?_) AllReady.nil
      refine step_val (w' := (w5.alloc (.cells (wcs (k, x)).toArray 75))) rfl pv (ex_ld1 71 75 (.tmp 27) rfl Try.underlying71 D.g 2 pv rfl h2b) ?_
      refine hK _ _ ?_
      clear hK K
      simp [Act.put]
      refine wpAny_ready (rs := [9]) (by kernel_rfl) (by simp) ?_
      refine AllReady.cons rfl (fun K hK => ?_) AllReady.nil
      refine step_append_lies _ rfl (.tmp 28) (.tmp 32) 71 rfl B 75 i0 _ 129 136 Try.underlying71 hi0 hz0 hz1 hz2 (hzs.out) (by omega) pv _ _ rfl hown.out
        ⟨w5.heap.size, 0, none⟩ 1 1 (wcs (k, x)) rfl (by rw [wcs_len]) hnew.out (wcs_one _) (by omega) hmx.out hby.out hbs.out _ rfl ?_
      intro gg cap w6 ho6 hgrow hat hlt6
      refine hK _ _ ?_
      clear hK K
      simp [Act.put]
      obtain ⟨hA6, hG6, hc6, hf6⟩ := (hfin gg cap w6).out ho6 hgrow hat
      refine wpAny_take (i := 10) (v := ?_) rfl (by kernel_rfl) (by kernel_rfl) (by kernel_rfl) (fun _ _ _ h => h) (Or.inl ⟨by rfl, ?_⟩) ?_
      rotate_left
      · intro w; go_simp; try with_reducible rfl
      simp [Act.put]
      refine wpAny_take (i := 11) (v := ?_) rfl (by kernel_rfl) (by kernel_rfl) (by kernel_rfl) (fun _ _ _ h => h) (Or.inl ⟨by rfl, ?_⟩) ?_
      rotate_left
      · intro w; go_simp; try with_reducible rfl
      simp [Act.put]
      refine wpAny_ready (rs := [12]) (by kernel_rfl) (by simp) ?_
      refine AllReady.cons rfl (fun K hK => ?_) AllReady.nil
      refine step_skip (w' := w6.setCell ⟨D.g, 2, none⟩ (.slice (some ⟨gg, 0, none⟩) (s.count.refuse.pend.length + 1) cap)) rfl (by go_simp) ?_
      refine hK _ _ ?_
      clear hK K
      simp [Act.put]
      refine wpAny_done (by kernel_rfl) ?_ _
      go_wp2_with fail
      go_ret
      exact ⟨rfl, _, hA6, hG6⟩
theorem write_none (h : At w B n D pv s) (i : Int) (x : Sec) (hf : hasF n i = false) :
    Calls Try.prog 50 #[.pointer (some ⟨D.g, 0, none⟩), .int .i64 i, .agg x.cs.toArray] w fun e w' =>
    e = .returned (.int .i64 41) ∧ At w' B n D pv s.count ∧ Goes D w pv w' pv := by
  have HA := Lib.hid (h.alloc (.cells x.cs.toArray 46))
  clear h
  go_enter Try.func50, Try.ntmps50
  go_wp2_with fail
  refine (count_any HA.out).mono ?_
  rintro e w1 ⟨rfl, hA1, hG1⟩
  have hA := Lib.hid hA1
  have hG := Lib.hid hG1.behind
  clear HA hA1 hG1
  go_wp2_with fail
  refine (vhas_any hA.out _).mono ?_
  rintro e w1 ⟨rfl, rfl⟩
  rw [hf]
  go_wp2_with fail
  go_ret
  exact ⟨rfl, hA.out, hG.out⟩
theorem write_dead (h : At w B n D pv s) (i : Int) (x : Sec) (hf : hasF n i = true) (hd : s.count.refuse.dead = true) :
    Calls Try.prog 50 #[.pointer (some ⟨D.g, 0, none⟩), .int .i64 i, .agg x.cs.toArray] w fun e w' =>
    e = .returned (.int .i64 42) ∧ At w' B n D pv s.count.refuse ∧ Goes D w pv w' pv := by
  have HA := Lib.hid (h.alloc (.cells x.cs.toArray 46))
  clear h
  go_enter Try.func50, Try.ntmps50
  go_wp2_with fail
  refine (count_any HA.out).mono ?_
  rintro e w1 ⟨rfl, hA1, hG1⟩
  have hA := Lib.hid hA1
  have hG := Lib.hid hG1.behind
  clear HA hA1 hG1
  go_wp2_with fail
  refine (vhas_any hA.out _).mono ?_
  rintro e w1 ⟨rfl, rfl⟩
  rw [hf]
  go_wp2_with fail
  refine (refuses_any hA.out).mono ?_
  rintro e w2 ⟨rfl, hA1, hG1⟩
  rw [hd]
  have hA2 := Lib.hid hA1
  have hG2 := Lib.hid (hG.out.trans hG1)
  clear hA hG hA1 hG1 hd hf
  go_wp2_with fail
  go_ret
  exact ⟨rfl, hA2.out, hG2.out⟩
theorem write_any (h : At w B n D pv s) (i : Int) (x : Sec) (hp : s.pend.length ≤ 1000000) :
    Calls Try.prog 50 #[.pointer (some ⟨D.g, 0, none⟩), .int .i64 i, .agg x.cs.toArray] w fun e w' =>
    ∃ pv', e = .returned (.int .i64 (s.write n i x).2) ∧ At w' B n D pv' (s.write n i x).1 ∧ Goes D w pv w' pv' := by
  unfold St.write
  by_cases h1 : hasF n i = true
  · rw [if_pos h1]
    by_cases h2 : s.count.refuse.dead = true
    · rw [if_pos h2]
      exact (write_dead h i x h1 h2).mono fun e w' ⟨a, b, c⟩ => ⟨pv, a, b, c⟩
    · rw [if_neg h2]
      have h1' := h1
      unfold hasF at h1'
      rw [decide_eq_true_iff] at h1'
      obtain ⟨k, rfl⟩ := Int.eq_ofNat_of_zero_le h1'.1
      exact write_ok h k x (by omega) hp (by simpa using h2)
  · rw [if_neg h1]
    exact (write_none h i x (by simpa using h1)).mono fun e w' ⟨a, b, c⟩ => ⟨pv, a, b, c⟩
end
end
section
open Go.RowKit
/-- A pending write is loaded, wherever it lies. -/
theorem ld_w {ops : Array Oper} {rest : List Oper} {o : Oper} {a : Act} {w : World} {Q : Exit → Act → World → Prop} (hgd : o.guard = none) (x : Operand) (ho : o.op = .load 75 x)
    (b k : Nat) (p : Nat × Sec) (hx : a.eval x = .pointer (some ⟨b, k, none⟩)) (hr : w.rangeAt b k (wcs p))
    (h : wpList Try.prog ops Q rest (a.put o.dst (.agg (wcs p).toArray)) w) : wpList Try.prog ops Q (o :: rest) a w :=
  wpList_load_mid hgd _ x ho b k hx (wcs p) _ hr Try.underlying75 rfl (sizeW' p) h
/-- A pending write is stored, wherever there is room for it. -/
theorem st_w {ops : Array Oper} {rest : List Oper} {o : Oper} {a : Act} {w : World} {Q : Exit → Act → World → Prop} (hgd : o.guard = none) (x y : Operand) (ho : o.op = .store 75 x y)
    (b k : Nat) (p : Nat × Sec) (hx : a.eval x = .pointer (some ⟨b, k, none⟩)) (hy : a.eval y = .agg (wcs p).toArray) (ht : w.there b k 129)
    (h : ∀ w', Hid (w' = w.setCells b k (wcs p)) → wpList Try.prog ops Q rest (a.put o.dst undef) w') : wpList Try.prog ops Q (o :: rest) a w :=
  wpList_store_mid hgd _ x y ho b k (wcs p).toArray hx hy (by rw [List.size_toArray, wcs_len]; exact ht) (sizeW'' p) (all_one (wcs_one p)) (h _ rfl)
theorem Blk.wHas {w : World} {g : Nat} {t : TypeId} {p : Nat × Sec} (h : Blk w g t (wcs p).toArray) : w.there g 0 129 := h.there 0 129 (by rw [List.size_toArray, wcs_len]; omega)
theorem Blk.wAll {w : World} {g : Nat} {t : TypeId} {p : Nat × Sec} (h : Blk w g t (wcs p).toArray) (q : Nat × Sec) : Blk (w.setCells g 0 (wcs q)) g t (wcs q).toArray := h.setAll _ (by rw [List.size_toArray, wcs_len, wcs_len])
theorem Blk.wSec {w : World} {g : Nat} {t : TypeId} {p : Nat × Sec} (h : Blk w g t (wcs p).toArray) : w.rangeAt g 1 p.2.cs := h.range 1 p.2.cs fun j v hv => by
  have e : (wcs p).toArray[1 + j]? = (wcs p)[1 + j]? := List.getElem?_toArray ..
  rw [e, Nat.add_comm]
  exact hv
theorem Blk.wNum {w : World} {g : Nat} {t : TypeId} {p : Nat × Sec} (h : Blk w g t (wcs p).toArray) : w.cell? ⟨g, 0, none⟩ = some (.int .i64 (p.1 : Int)) := h.cell 0
section
variable {w : World} {B n : Nat} {D : Dev} {pv : Value} {s : St}
theorem Goes.chgd {w0 w w' : World} {O : Nat → Prop} (h : Goes D w0 pv w pv) (c : Chg w w' O) (hO : ∀ k, k < w0.heap.size → O k → D.own pv k) : Goes D w0 pv w' pv := ⟨h.chg.trans c hO, h.row⟩
end
end
section
open Go.RowKit
theorem run_copy_sec {w : World} {gn gs n : Nat} {t t' : TypeId} {l m : List Sec} (hn : Blk w gn t (flat m).toArray) (hs : Blk w gs t' (flat l).toArray) (hm : m.length = n) (hl : l.length = n) (ty : TypeId) :
    (Builtin.copy_ #[70, 70] ty #[.slice (some ⟨gn, 0, none⟩) n n, .slice (some ⟨gs, 0, none⟩) n n]).run Try.prog w = .ok (goInt n) (w.setCells gn 0 (flat l)) := by
  have hsrc : ∀ j v, (flat l)[j]? = some v → w.cell? ((⟨gs, 0, none⟩ : Addr).add j) = some v := fun j v hv => by
    rw [Addr.add_mid, hs.cell, Nat.zero_add]
    have e : (flat l).toArray[j]? = (flat l)[j]? := List.getElem?_toArray ..
    rw [e]
    exact hv
  have hll : (flat l).length = n * 128 := by rw [flat_len, hl]
  have hml : (flat m).toArray.size = n * 128 := by rw [List.size_toArray, flat_len, hm]
  have h1 := run_loadCells_list (P := Try.prog) w ⟨gs, 0, none⟩ (flat l) hsrc
  have ht := hn.there 0 (n * 128) (by omega)
  have h2 := run_storeCells_cells (P := Try.prog) gn 0 (flat l) 0 w (fun j hj => by have := ht j (by omega); simpa using this.1) (fun j hj => by have := ht j (by omega); simpa using this.2) (flat_one l)
  obtain ⟨i, hi, _, hsz, _⟩ := info_parts infoSec
  rw [hll] at h1
  simp only [Nat.add_zero] at h2
  simp [Builtin.copy_, run_underlying Try.underlying70, Builtin.lenOf, Builtin.firstCells, sizeOf, typeInfo, hi, hsz, h1, h2]
theorem copy_sec {ops : Array Oper} {rest : List Oper} {o : Oper} {a : Act} {w : World} {Q : Exit → Act → World → Prop} (hgd : o.guard = none) (x y : Operand)
    (ho : o.op = .call { callee := .builtin .copy, args := #[x, y], argTypes := #[70, 70] }) (gn gs n : Nat) {t t' : TypeId} {l m : List Sec}
    (hx : a.eval x = .slice (some ⟨gn, 0, none⟩) n n) (hy : a.eval y = .slice (some ⟨gs, 0, none⟩) n n) (hn : Blk w gn t (flat m).toArray) (hs : Blk w gs t' (flat l).toArray) (hm : m.length = n) (hl : l.length = n)
    (h : ∀ w', Hid (w' = w.setCells gn 0 (flat l)) → wpList Try.prog ops Q rest (a.put o.dst (goInt n)) w') : wpList Try.prog ops Q (o :: rest) a w := by
  refine wpList_plain hgd fun _ hK => ?_
  unfold Oper.wp execOp
  simp only [ho, resolve, invoke, builtin, Sem.run_bind, Sem.run_pure, Result.andThen_ok, List.map_toArray, List.map_cons, List.map_nil, hx, hy, run_copy_sec hn hs hm hl]
  exact hK _ _ (h _ rfl)
theorem Blk.copied {w : World} {g : Nat} {t : TypeId} {l m : List Sec} (h : Blk w g t (flat m).toArray) (hl : l.length = m.length) : Blk (w.setCells g 0 (flat l)) g t (flat l).toArray := h.setAll _ (by rw [List.size_toArray, flat_len, flat_len, hl])
/-- Bools that a call reads, and that the device doesn't own. -/
def RdK (w : World) (D : Dev) (pv : Value) (A : Option Addr) (ks : List Bool) : Prop := 0 < ks.length → ∃ b off, A = some ⟨b, off, none⟩ ∧ b < w.heap.size ∧ ¬ D.own pv b ∧ ∀ j (h : j < ks.length), w.cell? ⟨b, off + j, none⟩ = some (.bool ks[j])
section
variable {w : World} {B n : Nat} {D : Dev} {pv : Value} {s : St}
theorem At.copy (h : At w B n D pv s) : At (w.setCells D.gn 0 (flat s.st)) B n D pv { s with nw := s.st } := by
  have hc : Chg w (w.setCells D.gn 0 (flat s.st)) (· = D.gn) := Chg.setCells (O := (· = D.gn)) (.inl rfl) _ _ (Chg.refl _ _)
  obtain ⟨h1, h2, h3⟩ := h.own_gn _ rfl
  exact { h with
    dev := h.dev.chg hc (Ne.symm h1)
    st := h.st.chg hc (Ne.symm h2)
    nw := h.nw.copied (by rw [h.ls, h.ln])
    pend := own_chg h.pend hc fun g hg e => h3 (e ▸ hg)
    ln := h.ls }
end
end
section
open Go.RowKit
theorem flatW_set (l : List (Nat × Sec)) (i : Nat) (x : Sec) (hi : i < l.length) (k : Nat) :
    (flatW (l.set i (l[i].1, x)))[k]? = if i * 129 + 1 ≤ k ∧ k < i * 129 + 1 + x.cs.length then x.cs[k - (i * 129 + 1)]? else (flatW l)[k]? := by
  rw [Sec.cs_len]
  by_cases hk : k < l.length * 129
  · have h1 : k = k / 129 * 129 + k % 129 := by omega
    have h2 : k / 129 < l.length := by omega
    have h3 : k % 129 < 129 := by omega
    generalize k / 129 = q at *
    generalize k % 129 = r at *
    subst h1
    rw [flatW_at _ q (by simpa using h2) r h3, flatW_at _ q h2 r h3]
    by_cases hq : q = i
    · subst hq
      rw [List.getElem_set_self]
      rcases Nat.eq_zero_or_pos r with rfl | hr
      · rw [if_neg (by omega)]
        rfl
      · rw [if_pos (by omega), show q * 129 + r - (q * 129 + 1) = r - 1 by omega]
        obtain ⟨r, rfl⟩ : ∃ j, r = j + 1 := ⟨r - 1, by omega⟩
        rfl
    · rw [if_neg (by omega), List.getElem_set_ne (by omega)]
  · rw [if_neg (by omega), List.getElem?_eq_none (by rw [flatW_len, List.length_set]; omega), List.getElem?_eq_none (by rw [flatW_len]; omega)]
/-- A sector is stored, as a step of a region that draws its order. -/
theorem step_st {ops : Array Oper} {o : Oper} {a : Act} {w : World} {K : Act → World → Prop} {Q : Exit → Act → World → Prop} {E : Prop} (hgd : o.guard = none) (x y : Operand) (ho : o.op = .store 46 x y)
    (b k : Nat) (s : Sec) (hx : a.eval x = .pointer (some ⟨b, k, none⟩)) (hy : a.eval y = .agg s.cs.toArray) (ht : w.there b k 128)
    (h : K (a.put o.dst undef) (w.setCells b k s.cs)) : if Region.wanted o (yielded ops a.tmps) = true then Oper.wp Try.prog o a w K Q else E := by
  have hw : Region.wanted o (yielded ops a.tmps) = true := by simp [Region.wanted, hgd]
  rw [if_pos hw]
  exact wp_store_mid _ x y ho b k s.cs.toArray hx hy (by rw [List.size_toArray, Sec.cs_len]; exact ht) (sizeSec'' s) (all_one s.one) h
/-- The first k of the pending writes of sector i are of x. -/
def mixP (i : Nat) (x : Sec) (k : Nat) (ps : List (Nat × Sec)) : List (Nat × Sec) := (rotP i x ps).take k ++ ps.drop k
theorem rotP_len (i : Nat) (x : Sec) (ps : List (Nat × Sec)) : (rotP i x ps).length = ps.length := by simp [rotP]
theorem mixP_len (i : Nat) (x : Sec) (k : Nat) (ps : List (Nat × Sec)) : (mixP i x k ps).length = ps.length := by
  simp [mixP, rotP_len]
  omega
theorem mixP_zero (i : Nat) (x : Sec) (ps : List (Nat × Sec)) : mixP i x 0 ps = ps := by simp [mixP]
theorem mixP_all (i : Nat) (x : Sec) (k : Nat) (ps : List (Nat × Sec)) (hk : ps.length ≤ k) : mixP i x k ps = rotP i x ps := by
  unfold mixP
  rw [List.take_of_length_le (by rw [rotP_len]; exact hk), List.drop_eq_nil_of_le hk, List.append_nil]
theorem mixP_at (i : Nat) (x : Sec) (k : Nat) (ps : List (Nat × Sec)) (hk : k < ps.length) (h : k < (mixP i x k ps).length) : (mixP i x k ps)[k] = ps[k] := by
  have h1 : (mixP i x k ps)[k]? = ps[k]? := by
    unfold mixP
    rw [List.getElem?_append_right (by rw [List.length_take]; omega), List.length_take, rotP_len, List.getElem?_drop]
    congr 1
    omega
  rw [List.getElem?_eq_getElem h, List.getElem?_eq_getElem hk, Option.some.injEq] at h1
  exact h1
theorem mixP_succ (i : Nat) (x : Sec) (k : Nat) (ps : List (Nat × Sec)) (hk : k < ps.length) : mixP i x (k + 1) ps = (mixP i x k ps).set k (if ps[k].1 = i then (ps[k].1, x) else ps[k]) := by
  unfold mixP
  have hr : k < (rotP i x ps).length := by rw [rotP_len]; exact hk
  have hg : (rotP i x ps)[k] = if ps[k].1 = i then (ps[k].1, x) else ps[k] := by simp [rotP]
  have hd : ps.drop k = ps[k] :: ps.drop (k + 1) := List.drop_eq_getElem_cons hk
  rw [List.take_succ_eq_append_getElem hr, hd, List.append_assoc, List.set_append_right _ _ (by rw [List.length_take]; omega), List.length_take, show k - min k (rotP i x ps).length = 0 by omega, hg]
  rfl
theorem mixP_hit (i : Nat) (x : Sec) (k : Nat) (ps : List (Nat × Sec)) (hk : k < ps.length) (hi : ps[k].1 = i) (h : k < (mixP i x k ps).length) : mixP i x (k + 1) ps = (mixP i x k ps).set k ((mixP i x k ps)[k].1, x) := by
  rw [mixP_succ i x k ps hk, if_pos hi, mixP_at i x k ps hk]
theorem mixP_miss (i : Nat) (x : Sec) (k : Nat) (ps : List (Nat × Sec)) (hk : k < ps.length) (hi : ¬ ps[k].1 = i) : mixP i x (k + 1) ps = mixP i x k ps := by
  rw [mixP_succ i x k ps hk, if_neg hi]
  have h := mixP_at i x k ps hk (by rw [mixP_len]; exact hk)
  rw [← h]
  exact List.set_getElem_self ..
section
variable {w : World} {B n : Nat} {D : Dev} {pv : Value} {s : St}
theorem At.rot_pend {gp c m : Nat} (h : At w B n D (.slice (some ⟨gp, 0, none⟩) m c) s) (k : Nat) (hk : k < s.pend.length) (x : Sec) : At (w.setCells gp (k * 129 + 1) x.cs) B n D (.slice (some ⟨gp, 0, none⟩) m c) { s with pend := s.pend.set k (s.pend[k].1, x) } := by
  have hm : s.pend.length = m := by
    have h1 := h.pend.2
    rcases h1 with ⟨h1, _⟩ | ⟨g', cap, cur, h1, _⟩
    · cases h1
    · simp only [Value.slice.injEq] at h1
      exact h1.2.1.symm
  subst hm
  have hc : Chg w (w.setCells gp (k * 129 + 1) x.cs) (· = gp) := Chg.setCells (O := (· = gp)) (.inl rfl) _ _ (Chg.refl _ _)
  obtain ⟨xs', h1, h2⟩ := own_setCells x.cs (k * 129 + 1) h.pend (by rw [Sec.cs_len]; omega)
  rw [show xs' = flatW (s.pend.set k (s.pend[k].1, x)) from List.ext_getElem? fun j => by rw [h2 j, flatW_set s.pend k x hk j]] at h1
  have e1 := (h.own_g _ rfl).2.2
  have e2 := (h.own_gs _ rfl).2.2
  have e3 := (h.own_gn _ rfl).2.2
  exact { h with
    dev := h.dev.chg hc fun e => e1 (by rw [e]; rfl)
    st := h.st.chg hc fun e => e2 (by rw [e]; rfl)
    nw := h.nw.chg hc fun e => e3 (by rw [e]; rfl)
    pend := by rw [List.length_set]; exact h1
    ok := fun p hp => by
      rcases List.mem_or_eq_of_mem_set hp with hp | hp
      · exact h.ok p hp
      · rw [hp]; exact h.ok s.pend[k] (List.getElem_mem hk) }
theorem rot_none (h : At w B n D pv s) (i : Int) (x : Sec) (hf : hasF n i = false) :
    Calls Try.prog 18 #[.pointer (some ⟨D.g, 0, none⟩), .int .i64 i, .agg x.cs.toArray] w fun e w' =>
    e = .returned (.int .i64 41) ∧ At w' B n D pv s ∧ Goes D w pv w' pv := by
  have HA := Lib.hid (h.alloc (.cells x.cs.toArray 46))
  have HG := Lib.hid ((Goes.refl D (w.alloc (.cells x.cs.toArray 46)) pv).behind)
  clear h
  go_enter Try.func18, Try.ntmps18
  go_wp2_with fail
  refine (vhas_any HA.out _).mono ?_
  rintro e w1 ⟨rfl, rfl⟩
  rw [hf]
  go_wp2_with fail
  go_ret
  exact ⟨rfl, HA.out, HG.out⟩
set_option maxHeartbeats 2000000 in
theorem rot_ok (h : At w B n D pv s) (hp : (s.pend.length : Int) ≤ 1000000) (i : Nat) (x : Sec) (hi : i < n) :
    Calls Try.prog 18 #[.pointer (some ⟨D.g, 0, none⟩), .int .i64 (i : Int), .agg x.cs.toArray] w fun e w' =>
    e = .returned (.int .i64 0) ∧ At w' B n D pv { s with st := s.st.set i x, nw := s.nw.set i x, pend := rotP i x s.pend } ∧ Goes D w pv w' pv := by
  obtain ⟨A, c, rfl, _⟩ := own_rd h.pend
  have HA := Lib.hid (h.alloc (.cells x.cs.toArray 46))
  have HG := Lib.hid ((Goes.refl D (w.alloc (.cells x.cs.toArray 46)) (.slice A s.pend.length c)).behind)
  have hfar := Lib.hid h.new_far
  have hbl := Lib.hid (Blk.new w 46 x.cs.toArray)
  clear h
  generalize hg0 : w.heap.size = g0 at *
  have hh : hasF n (i : Int) = true := by unfold hasF; rw [decide_eq_true_iff]; omega
  go_enter Try.func18, Try.ntmps18
  go_wp2_with fail
  refine (vhas_any HA.out _).mono ?_
  rintro e w1 ⟨rfl, rfl⟩
  rw [hh]
  clear hh
  generalize w.alloc (.cells x.cs.toArray 46) = w1 at *
  have hii : (i : Int) < n := by omega
  go_wp2_with fail
  obtain ⟨n3, n4, _⟩ := HA.out.own_g _ rfl
  have n1 : g0 ≠ D.gs := fun e => hfar.out (.inr (.inl e))
  have n2 : g0 ≠ D.gn := fun e => hfar.out (.inr (.inr (.inl e)))
  have hS1 : Hid ((fun w' => w'.rangeAt g0 0 x.cs ∧ w'.cell? ⟨D.g, 0, none⟩ = some (.slice (some ⟨D.gs, 0, none⟩) n n) ∧ w'.cell? ⟨D.g, 1, none⟩ = some (.slice (some ⟨D.gn, 0, none⟩) n n) ∧ w'.there D.gs (i * 128) 128 ∧ w'.there D.gn (i * 128) 128) w1.drew) := ⟨hbl.out.secIs, HA.out.fields.1, HA.out.fields.2.1, HA.out.st.secThere i (by rw [HA.out.ls]; exact hi), HA.out.nw.secThere i (by rw [HA.out.ln]; exact hi)⟩
  have hsame : ∀ (w' : World) (b : Nat) (vs : List Value), (b = D.gs ∨ b = D.gn) → Hid ((fun w' => w'.rangeAt g0 0 x.cs ∧ w'.cell? ⟨D.g, 0, none⟩ = some (.slice (some ⟨D.gs, 0, none⟩) n n) ∧ w'.cell? ⟨D.g, 1, none⟩ = some (.slice (some ⟨D.gn, 0, none⟩) n n) ∧ w'.there D.gs (i * 128) 128 ∧ w'.there D.gn (i * 128) 128) w' → (fun w' => w'.rangeAt g0 0 x.cs ∧ w'.cell? ⟨D.g, 0, none⟩ = some (.slice (some ⟨D.gs, 0, none⟩) n n) ∧ w'.cell? ⟨D.g, 1, none⟩ = some (.slice (some ⟨D.gn, 0, none⟩) n n) ∧ w'.there D.gs (i * 128) 128 ∧ w'.there D.gn (i * 128) 128) (w'.setCells b (i * 128) vs)) := fun w' b vs hb ⟨h1, h2, h3, h4, h5⟩ => by
    have hbg : b ≠ D.g := by rcases hb with rfl | rfl <;> exact Ne.symm (by assumption)
    have hb0 : g0 ≠ b := by rcases hb with rfl | rfl <;> assumption
    refine ⟨World.rangeAt_setCells_apart h1 _ _ _ (.inl hb0), ?_, ?_, World.there_setCells h4 _ _ _, World.there_setCells h5 _ _ _⟩
    · rw [World.cell?_setCells_out _ _ _ _ _ (fun h _ => absurd h.symm hbg)]; exact h2
    · rw [World.cell?_setCells_out _ _ _ _ _ (fun h _ => absurd h.symm hbg)]; exact h3
  refine wp_region_held_drew (S := (fun w' => w'.rangeAt g0 0 x.cs ∧ w'.cell? ⟨D.g, 0, none⟩ = some (.slice (some ⟨D.gs, 0, none⟩) n n) ∧ w'.cell? ⟨D.g, 1, none⟩ = some (.slice (some ⟨D.gn, 0, none⟩) n n) ∧ w'.there D.gs (i * 128) 128 ∧ w'.there D.gn (i * 128) 128)) (by kernel_rfl) hS1.out (fun hHeld => ?_)
  clear hS1
  refine wpAnyH_take (i := 0) (v := ?_) rfl (by kernel_rfl) (by kernel_rfl) (by kernel_rfl) (fun _ _ _ h => h) (Or.inl ⟨by rfl, ?_⟩) (by assumption) ?_
  rotate_left
  · intro w _; go_simp; try with_reducible rfl
  simp [Act.put]
  refine wpAnyH_take (i := 1) (v := ?_) rfl (by kernel_rfl) (by kernel_rfl) (by kernel_rfl) (fun _ _ _ h => h) (Or.inl ⟨by rfl, ?_⟩) (by assumption) ?_
  rotate_left
  · intro w _; go_simp; try with_reducible rfl
  simp [Act.put]
  refine wpAnyH_take (i := 2) (v := ?_) rfl (by kernel_rfl) (by kernel_rfl) (by kernel_rfl) (fun _ _ _ h => h) (Or.inl ⟨by rfl, ?_⟩) (by assumption) ?_
  rotate_left
  · intro w _; go_simp; try with_reducible rfl
  simp [Act.put]
  refine wpAnyH_take (i := 4) (v := ?_) rfl (by kernel_rfl) (by kernel_rfl) (by kernel_rfl) (fun _ _ _ h => h) (Or.inl ⟨by rfl, ?_⟩) (by assumption) ?_
  rotate_left
  · intro w _; go_simp; try with_reducible rfl
  simp [Act.put]
  refine wpAnyH_take (i := 5) (v := ?_) rfl (by kernel_rfl) (by kernel_rfl) (by kernel_rfl) (fun _ _ _ h => h) (Or.inl ⟨by rfl, ?_⟩) (by assumption) ?_
  rotate_left
  · intro w _; go_simp; try with_reducible rfl
  simp [Act.put]
  refine wpAnyH_take (i := 6) (v := ?_) rfl (by kernel_rfl) (by kernel_rfl) (by kernel_rfl) (fun _ _ _ h => h) (Or.inl ⟨by rfl, ?_⟩) (by assumption) ?_
  rotate_left
  · intro w _; go_simp; try with_reducible rfl
  simp [Act.put]
  refine wpAnyH_take (i := 7) (v := ?_) rfl (by kernel_rfl) (by kernel_rfl) (by kernel_rfl) (fun _ _ _ h => h) (Or.inl ⟨by rfl, ?_⟩) (by assumption) ?_
  rotate_left
  · intro w _; go_simp; try with_reducible rfl
  simp [Act.put]
  refine wpAnyH_take (i := 9) (v := ?_) rfl (by kernel_rfl) (by kernel_rfl) (by kernel_rfl) (fun _ _ _ h => h) (Or.inl ⟨by rfl, ?_⟩) (by assumption) ?_
  rotate_left
  · intro w _; go_simp; try with_reducible rfl
  simp [Act.put]
  refine wpAnyH_take (i := 3) (v := .slice (some ⟨D.gs, 0, none⟩) n n) rfl (by kernel_rfl) (by kernel_rfl) (by kernel_rfl) (fun _ _ _ h => h) (Or.inl ⟨by rfl, ?_⟩) (by assumption) ?_
  · intro w hS
    exact ex_ld1 70 46 (.tmp 14) rfl Try.underlying70 D.g 0 _ rfl hS.2.1
  simp [Act.put]
  refine wpAnyH_take (i := 8) (v := .slice (some ⟨D.gn, 0, none⟩) n n) rfl (by kernel_rfl) (by kernel_rfl) (by kernel_rfl) (fun _ _ _ h => h) (Or.inl ⟨by rfl, ?_⟩) (by assumption) ?_
  · intro w hS
    exact ex_ld1 70 46 (.tmp 19) rfl Try.underlying70 D.g 1 _ rfl hS.2.2.1
  simp [Act.put]
  refine wpAnyH_take (i := 10) (v := .agg x.cs.toArray) rfl (by kernel_rfl) (by kernel_rfl) (by kernel_rfl) (fun _ _ _ h => h) (Or.inl ⟨by rfl, ?_⟩) (by assumption) ?_
  · intro w hS
    exact ex_ld (.tmp 5) rfl g0 0 x rfl hS.1
  simp [Act.put]
  refine wpAnyH_take (i := 11) (v := .agg x.cs.toArray) rfl (by kernel_rfl) (by kernel_rfl) (by kernel_rfl) (fun _ _ _ h => h) (Or.inl ⟨by rfl, ?_⟩) (by assumption) ?_
  · intro w hS
    exact ex_ld (.tmp 5) rfl g0 0 x rfl hS.1
  simp [Act.put]
  refine wpAnyH_take (i := 12) (v := ?_) rfl (by kernel_rfl) (by kernel_rfl) (by kernel_rfl) (fun _ _ _ h => h) (Or.inl ⟨by rfl, ?_⟩) (by assumption) ?_
  rotate_left
  · intro w _; go_simp; try with_reducible rfl
  simp [Act.put]
  refine wpAnyH_ready (rs := [13]) (by kernel_rfl) (by simp) ?_
  refine AllReadyH.cons rfl (fun K hK => ?_) AllReadyH.nil
  refine step_st rfl (.tmp 24) (.tmp 22) rfl D.gs (i * 128) x rfl rfl hHeld.2.2.2.1 ?_
  refine hK.out _ _ ((hsame _ D.gs _ (.inl rfl)).out hHeld) (fun hHeld2 => ?_)
  clear hK K hHeld
  simp [Act.put]
  refine wpAnyH_take (i := 14) (v := ?_) rfl (by kernel_rfl) (by kernel_rfl) (by kernel_rfl) (fun _ _ _ h => h) (Or.inl ⟨by rfl, ?_⟩) (by assumption) ?_
  rotate_left
  · intro w _; go_simp; try with_reducible rfl
  simp [Act.put]
  refine wpAnyH_ready (rs := [15]) (by kernel_rfl) (by simp) ?_
  refine AllReadyH.cons rfl (fun K hK => ?_) AllReadyH.nil
  refine step_st rfl (.tmp 25) (.tmp 23) rfl D.gn (i * 128) x rfl rfl hHeld2.2.2.2.2 ?_
  refine hK.out _ _ ((hsame _ D.gn _ (.inr rfl)).out hHeld2) (fun hHeld3 => ?_)
  clear hK K hHeld2
  simp [Act.put]
  refine wpAnyH_done (by kernel_rfl) ?_ _
  have hA2 := Lib.hid ((HA.out.drew.set_st i x hi).set_nw i x hi)
  have hG2 := Lib.hid (((show Goes D w (.slice A s.pend.length c) w1.drew (.slice A s.pend.length c) from ⟨HG.out.chg.drew, HG.out.row⟩).set D.gs (i * 128) x.cs (.inl (.inr (.inl rfl)))).set D.gn (i * 128) x.cs (.inl (.inr (.inr (.inl rfl)))))
  have hr2 := Lib.hid hHeld3.1
  clear HA HG hHeld3 hsame hbl n3 n4
  generalize (w1.drew.setCells D.gs (i * 128) x.cs).setCells D.gn (i * 128) x.cs = w2 at *
  obtain ⟨_, _, h2, _⟩ := hA2.out.fields
  go_wp2_with fail
  go_loopw [31] (fun j wr => ∃ (k : Nat), k ≤ s.pend.length ∧ j = .int .i64 k ∧ At wr B n D (.slice A s.pend.length c) { s with st := s.st.set i x, nw := s.nw.set i x, pend := mixP i x k s.pend } ∧ Goes D w (.slice A s.pend.length c) wr (.slice A s.pend.length c) ∧ wr.rangeAt g0 0 x.cs) (fun i _ => s.pend.length - (intOf i).toNat)
  case atStart => exact ⟨0, by omega, rfl, by rw [mixP_zero]; exact hA2.out, hG2.out, hr2.out⟩
  case round =>
    clear h2 hA2 hG2 hr2
    obtain ⟨k, hk, rfl, hA, hG, hr⟩ := hrel
    have HA := Lib.hid hA
    have HG := Lib.hid hG
    have HR := Lib.hid hr
    clear hG hr
    obtain ⟨_, _, h2, _⟩ := hA.fields
    by_cases hlt : k < s.pend.length
    · have hml : k < (mixP i x k s.pend).length := by rw [mixP_len]; exact hlt
      obtain ⟨gp, cap, heq, _, hgp, _⟩ := own_form hA.pend (by show 0 < (mixP i x k s.pend).length; omega)
      simp only [Value.slice.injEq] at heq
      obtain ⟨rfl, hlen, rfl⟩ := heq
      clear hlen
      have hrow := hA.pend
      simp only [mixP_len] at hrow
      have hkey := own_sec hrow k hml
      rw [mixP_at i x k s.pend hlt hml] at hkey
      have hnum := hkey 0 _ rfl
      rw [Nat.add_zero] at hnum
      have HL := Lib.hid hlt
      have HM := Lib.hid (mixP_hit i x k s.pend hlt)
      have HN := Lib.hid (mixP_miss i x k s.pend hlt)
      have HC := Lib.hid (mixP_at i x k s.pend hlt hml)
      have hth := Lib.hid (own_there hrow (k * 129 + 1) 128 (by omega))
      clear hA hkey hrow
      have hki : (k : Int) < s.pend.length := by omega
      by_cases he : s.pend[k].1 = i
      · have hb : ((s.pend[k].1 : Int) == (i : Int)) = true := by rw [beq_iff_eq]; omega
        have HM2 := Lib.hid (HM.out he hml)
        clear HM HN he
        generalize (s.pend[k].1 : Int) = z at *
        go_wp2_with fail
        refine wp_region_still_tail 8 (by kernel_rfl) (by kernel_rfl) ?_
        simp only [List.take_succ_cons, List.take_zero, List.drop_succ_cons, List.drop_zero]
        change wpStill _ _ wr.drew (fun a' => wpList _ _ _ _ a' wr.drew) _ _
        have hA4 := Lib.hid HA.out.drew
        have hG4 : Hid (Goes D w (.slice (some ⟨gp, 0, none⟩) s.pend.length c) wr.drew (.slice (some ⟨gp, 0, none⟩) s.pend.length c)) := ⟨HG.out.chg.drew, HG.out.row⟩
        have hR4 : Hid (wr.drew.rangeAt g0 0 x.cs) := HR.out
        have hth4 : Hid (wr.drew.there gp (k * 129 + 1) 128) := hth.out
        clear HA HG HR hth hnum h2
        generalize wr.drew = w4 at *
        obtain ⟨_, _, h2, _⟩ := hA4.out.fields
        iterate 5 still_step
        with_reducible refine still_ld rfl _ rfl g0 0 x rfl hR4.out ?_
        iterate 2 still_step
        refine wpStill_nil ?_
        go_wp2_with (with_reducible refine st_sec rfl _ _ rfl gp (k * 129 + 1) x rfl rfl hth4.out ?_; intro w5 hw5)
        go_roundw
        case rel =>
          have hA5 := hA4.out.rot_pend k hml x
          refine ⟨k + 1, by omega, by go_num, ?_, ?_, ?_⟩
          · rw [HM2.out, hw5.out]
            exact hA5
          · rw [hw5.out]
            exact hG4.out.set gp (k * 129 + 1) x.cs (.inl (.inr (.inr (.inr rfl))))
          · rw [hw5.out]
            exact World.rangeAt_setCells_apart hR4.out _ _ _ (.inl fun e => hfar.out (.inr (.inr (.inr (by rw [e]; rfl)))))
        case measure =>
          have := HL.out
          simp [intOf]
          omega
      · have hb : ((s.pend[k].1 : Int) == (i : Int)) = false := by rw [beq_eq_false_iff_ne]; omega
        have HN2 := Lib.hid (HN.out he)
        clear HM HN he
        generalize (s.pend[k].1 : Int) = z at *
        go_wp2_with fail
        go_roundw
        case rel => exact ⟨k + 1, by omega, by go_num, by rw [HN2.out]; exact HA.out, HG.out, HR.out⟩
        case measure =>
          have := HL.out
          simp [intOf]
          omega
    · rw [mixP_all i x k s.pend (by omega)] at HA
      clear hA
      go_wp2_with fail
      go_ret
      exact ⟨rfl, HA.out, HG.out⟩
theorem rot_any (h : At w B n D pv s) (hp : s.pend.length ≤ 1000000) (i : Int) (x : Sec) :
    Calls Try.prog 18 #[.pointer (some ⟨D.g, 0, none⟩), .int .i64 i, .agg x.cs.toArray] w fun e w' =>
    e = .returned (.int .i64 (s.rot n i x).2) ∧ At w' B n D pv (s.rot n i x).1 ∧ Goes D w pv w' pv := by
  unfold St.rot
  by_cases h1 : hasF n i = true
  · rw [if_pos h1]
    have h1' := h1
    unfold hasF at h1'
    rw [decide_eq_true_iff] at h1'
    obtain ⟨k, rfl⟩ := Int.eq_ofNat_of_zero_le h1'.1
    exact rot_ok h (by omega) k x (by omega)
  · rw [if_neg h1]
    exact rot_none h i x (by simpa using h1)
end
end
section
open Go.RowKit
/-! ### Steps of a plain region, guarded or not -/
theorem wpList_val {P : Program} {ops : Array Oper} {rest : List Oper} {o : Oper} {a : Act} {w w' : World} {Q : Exit → Act → World → Prop} (hw : Region.wanted o (yielded ops a.tmps) = true) (v : Value)
    (hrun : (execOp a.eval o).run P w = .ok (.value v) w') (h : wpList P ops Q rest (a.put o.dst v) w') : wpList P ops Q (o :: rest) a w := by
  unfold wpList
  rw [if_pos hw]
  unfold Oper.wp
  rw [hrun]
  exact .inl h
theorem ex_build1 {o : Oper} {a : Act} {w : World} (x : Operand) (ho : o.op = .build 46 #[(0, x)]) (v : Value) (hx : a.eval x = v) (s : Sec) (hb : ∀ w, (Instr.build 46 #[(0, v)]).run Try.prog w = .ok (.agg s.cs.toArray) w) :
    (execOp a.eval o).run Try.prog w = .ok (.value (.agg s.cs.toArray)) w := by
  have hb := hb w
  unfold execOp
  simp only [ho, hx, List.map_toArray, List.map_cons, List.map_nil, Sem.run_bind, hb, Sem.run_pure, Result.andThen_ok]
theorem ex_build0 {o : Oper} {a : Act} {w : World} (ho : o.op = .build 46 #[]) :
    (execOp a.eval o).run Try.prog w = .ok (.value (.agg zsec.cs.toArray)) w := by
  have hb := buildZ w
  unfold execOp
  simp only [ho, List.map_toArray, List.map_nil, Sem.run_bind, hb, Sem.run_pure, Result.andThen_ok]
theorem ex_eqS {o : Oper} {a : Act} {w : World} (x y : Operand) (ho : o.op = .binOp .eql 46 x y 46) (s t : Sec) (hx : a.eval x = .agg s.cs.toArray) (hy : a.eval y = .agg t.cs.toArray) :
    (execOp a.eval o).run Try.prog w = .ok (.value (.bool (s.same t))) w := by
  unfold execOp
  simp [ho, hx, hy, eqGuard, binOp, run_eqSec]
def st0 : St := newSt 4
def st1 : St := (st0.write 4 0 (osec 1)).1
def st2 : St := (st1.write 4 1 (osec 2)).1
def st3 : St := st2.count
def st4 : St := st3.crash [false, true]
theorem st0_e : (st0.write 4 0 (osec 1)).2 = 0 := by kernel_rfl
theorem st1_e : (st1.write 4 1 (osec 2)).2 = 0 := by kernel_rfl
theorem st1_p : st1.pend.length = 1 := by kernel_rfl
theorem st2_p : st2.pend.length = 2 := by kernel_rfl
theorem st3_e : (st2.read 4 0).2 = 0 := by kernel_rfl
theorem st3_s : (st2.read 4 0).1 = osec 1 := by kernel_rfl
theorem st4_0 : st4.stable 4 0 = zsec := by kernel_rfl
theorem st4_1 : st4.stable 4 1 = osec 2 := by kernel_rfl
theorem st4_p : st4.pend.length = 0 := by kernel_rfl
theorem st4_o : st4.ops = 3 := by kernel_rfl
theorem many4 : manyF 4 = 4 := by kernel_rfl
theorem set1 : zsec.cs.toArray.setIfInBounds 0 (.int .u8 1) = (osec 1).cs.toArray := by kernel_rfl
theorem set2 : zsec.cs.toArray.setIfInBounds 0 (.int .u8 2) = (osec 2).cs.toArray := by kernel_rfl
theorem manyMinus : manyF (-1) = 0 := by kernel_rfl
theorem many9 : manyF 9999 = 1024 := by kernel_rfl
end
end Go.Proofs.Ytdcegkeaopjbnaa
