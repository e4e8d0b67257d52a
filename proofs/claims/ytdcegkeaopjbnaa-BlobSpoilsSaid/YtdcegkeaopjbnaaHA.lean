/- The texts H1 H2 H3 H4 H5 H6 H7 H10 H14 H15 H16. -/
import Derived.Test.YtdcegkeaopjbnaaOA
import Derived.Test.YtdcegkeaopjbnaaGA
import Derived.Deep.Cut
import Derived.Test.YtdcegkeaopjbnaaNA
import Derived.Test.YtdcegkeaopjbnaaVA
import Derived.Lib.SmallJoins
import Derived.Lib.LazyBuf
import Derived.Laws.IdiomCopy
import Derived.Deep.RegionHeld3
set_option maxRecDepth 10000
namespace Go.Proofs.Ytdcegkeaopjbnaa

section
open Go.RowKit

def rightQ (q : PtrV) : Bool := qrightF q.1 q.2.1 q.2.2
def bsQ (q : PtrV) : List UInt8 := bsF q.1 q.2.1 q.2.2
structure P8 where
  l : List PtrV
  h : l.length = 8
theorem P8.eq : ∀ {p q : P8}, p.l = q.l → p = q
  | ⟨_, _⟩, ⟨_, _⟩, rfl => rfl
def P8.cs (p : P8) : List Value := pqs p.l
theorem P8.cs_len (p : P8) : p.cs.length = 24 := by rw [P8.cs, pqs_len, p.h]
theorem pqs_one {l : List PtrV} : ∀ u ∈ pqs l, u.oneCell' = true := by
  intro u hu
  simp only [pqs, List.mem_flatMap, List.mem_cons, List.not_mem_nil, or_false] at hu
  obtain ⟨q, _, rfl | rfl | rfl⟩ := hu <;> rfl
theorem P8.one (p : P8) : ∀ u ∈ p.cs, u.oneCell' = true := pqs_one
def P8.at_ (p : P8) (j : Nat) : PtrV := p.l.getD j hole0
def P8.ok (p : P8) : Prop := ∀ q ∈ p.l, PtrOk q
theorem P8.at_mem (p : P8) (j : Nat) (hj : j < 8) : p.at_ j ∈ p.l := by
  have h : j < p.l.length := by rw [p.h]; exact hj
  simp only [P8.at_, List.getD, List.getElem?_eq_getElem h, Option.getD_some]
  exact List.getElem_mem h
theorem P8.cell (p : P8) (j : Nat) (hj : j < 8) : p.cs[j * 3]? = some (.int .i64 (p.at_ j).1) ∧ p.cs[j * 3 + 1]? = some (.int .u64 (p.at_ j).2.1) ∧ p.cs[j * 3 + 2]? = some (.int .u32 (p.at_ j).2.2) := by
  have h : j < p.l.length := by rw [p.h]; exact hj
  have h1 := pqs_at p.l j h
  have e : p.at_ j = p.l[j] := by simp [P8.at_, List.getD, h]
  rw [e]
  exact h1
def zp8 : P8 := ⟨List.replicate 8 hole0, List.length_replicate ..⟩
def P8.set (p : P8) (j : Nat) (q : PtrV) : P8 := ⟨p.l.set j q, by rw [List.length_set, p.h]⟩
theorem P8.set_at (p : P8) (j i : Nat) (q : PtrV) (hi : i < 8) : (p.set j q).at_ i = if j = i then q else p.at_ i := by
  have h : i < p.l.length := by rw [p.h]; exact hi
  unfold P8.at_ P8.set
  by_cases e : j = i
  · subst e
    rw [if_pos rfl]
    simp [List.getD, h]
  · rw [if_neg e]
    simp [List.getD, List.getElem?_set_ne e]
theorem P8.ext {p q : P8} (h : ∀ j, j < 8 → p.at_ j = q.at_ j) : p = q := P8.eq (List.ext_getElem (by rw [p.h, q.h]) fun j h1 h2 => by
  have := h j (by rw [p.h] at h1; exact h1)
  simpa [P8.at_, List.getD, h1, h2] using this)
theorem infoP8 : (Try.prog.info? 84).map (fun i => (i.zero, i.size)) = some (some (.agg zp8.cs.toArray), 24) := by kernel_rfl
theorem sizeP8 : (Try.prog.info? 84).map (·.size) = some 24 := by kernel_rfl
theorem sizeP8' (p : P8) : (Try.prog.info? 84).map (·.size) = some p.cs.length := by rw [P8.cs_len]; exact sizeP8
theorem sizeP8'' (p : P8) : (Try.prog.info? 84).map (·.size) = some p.cs.toArray.size := by rw [List.size_toArray, P8.cs_len]; exact sizeP8
theorem zeroP8 (w : World) : Sem.run Try.prog (zeroValue 84) w = .ok (.agg zp8.cs.toArray) w := by
  obtain ⟨i, hi⟩ : ∃ i, Try.prog.info? 84 = some i := info_of_underlying Try.underlying84
  have h := infoP8
  rw [hi] at h
  simp only [Option.map_some, Option.some.injEq, Prod.mk.injEq] at h
  simp [zeroValue, typeInfo, hi, h.1]
theorem buildP8 (w : World) : (Instr.build 84 #[]).run Try.prog w = .ok (.agg zp8.cs.toArray) w := by
  refine run_build w _ _ _ ?_
  kernel_rfl
theorem ex_buildP8 {o : Oper} {a : Act} {w : World} (ho : o.op = .build 84 #[]) : (execOp a.eval o).run Try.prog w = .ok (.value (.agg zp8.cs.toArray)) w := by
  have hb := buildP8 w
  unfold execOp
  simp only [ho, List.map_toArray, List.map_nil, Sem.run_bind, hb, Sem.run_pure, Result.andThen_ok]
/-- Eight pointers are loaded, stored. -/
theorem ld_p8 {ops : Array Oper} {rest : List Oper} {o : Oper} {a : Act} {w : World} {Q : Exit → Act → World → Prop} (hgd : o.guard = none) (x : Operand) (ho : o.op = .load 84 x)
    (b k : Nat) (p : P8) (hx : a.eval x = .pointer (some ⟨b, k, none⟩)) (hr : w.rangeAt b k p.cs)
    (h : wpList Try.prog ops Q rest (a.put o.dst (.agg p.cs.toArray)) w) : wpList Try.prog ops Q (o :: rest) a w :=
  wpList_load_mid hgd _ x ho b k hx p.cs _ hr Try.underlying84 rfl (sizeP8' p) h
theorem st_p8 {ops : Array Oper} {rest : List Oper} {o : Oper} {a : Act} {w : World} {Q : Exit → Act → World → Prop} (hgd : o.guard = none) (x y : Operand) (ho : o.op = .store 84 x y)
    (b k : Nat) (p : P8) (hx : a.eval x = .pointer (some ⟨b, k, none⟩)) (hy : a.eval y = .agg p.cs.toArray) (ht : w.there b k 24)
    (h : ∀ w', Hid (w' = w.setCells b k p.cs) → wpList Try.prog ops Q rest (a.put o.dst undef) w') : wpList Try.prog ops Q (o :: rest) a w :=
  wpList_store_mid hgd _ x y ho b k p.cs.toArray hx hy (by rw [List.size_toArray, P8.cs_len]; exact ht) (sizeP8'' p) (all_one p.one) (h _ rfl)
/-- One of eight pointers is loaded. -/
theorem ld_pq {ops : Array Oper} {rest : List Oper} {o : Oper} {a : Act} {w : World} {Q : Exit → Act → World → Prop} (hgd : o.guard = none) (x : Operand) (ho : o.op = .load 25 x)
    (b k : Nat) (q : PtrV) (hx : a.eval x = .pointer (some ⟨b, k, none⟩)) (hr : w.rangeAt b k [.int .i64 q.1, .int .u64 q.2.1, .int .u32 q.2.2])
    (h : wpList Try.prog ops Q rest (a.put o.dst (ptq q)) w) : wpList Try.prog ops Q (o :: rest) a w :=
  wpList_load_mid hgd _ x ho b k hx [.int .i64 q.1, .int .u64 q.2.1, .int .u32 q.2.2] _ hr Try.underlying25 rfl ptr_size h
section
variable {w : World} {g : Nat} {t : TypeId} {p : P8}
theorem Blk.p8All (h : Blk w g t p.cs.toArray) (u : P8) : Blk (w.setCells g 0 u.cs) g t u.cs.toArray := h.setAll _ (by rw [List.size_toArray, P8.cs_len, P8.cs_len])
theorem Blk.p8Has (h : Blk w g t p.cs.toArray) : w.there g 0 24 := h.there 0 24 (by rw [List.size_toArray, P8.cs_len]; omega)
theorem Blk.p8Is (h : Blk w g t p.cs.toArray) : w.rangeAt g 0 p.cs := h.range 0 p.cs fun j v hv => by rw [Nat.zero_add, List.getElem?_toArray]; exact hv
theorem Blk.p8At (h : Blk w g t p.cs.toArray) (j : Nat) (hj : j < 8) : w.rangeAt g (j * 3) [.int .i64 (p.at_ j).1, .int .u64 (p.at_ j).2.1, .int .u32 (p.at_ j).2.2] := by
  obtain ⟨h1, h2, h3⟩ := p.cell j hj
  refine h.range (j * 3) _ fun i v hv => ?_
  rw [List.getElem?_toArray]
  match i with
  | 0 => exact h1.trans hv
  | 1 => exact h2.trans hv
  | 2 => exact h3.trans hv
  | i + 3 => simp at hv
theorem Blk.p8Set (h : Blk w g t p.cs.toArray) (j : Nat) (hj : j < 8) (q : PtrV) : Blk (w.setCells g (j * 3) [.int .i64 q.1, .int .u64 q.2.1, .int .u32 q.2.2]) g t (p.set j q).cs.toArray := by
  refine h.setTo _ _ (by rw [List.size_toArray, P8.cs_len]; simp; omega) fun k => ?_
  rw [List.getElem?_toArray, List.getElem?_toArray]
  simp only [List.length_cons, List.length_nil]
  by_cases hk : k < 24
  · have h1 : k = k / 3 * 3 + k % 3 := by omega
    have h2 : k / 3 < 8 := by omega
    have h3 : k % 3 < 3 := by omega
    generalize k / 3 = m at *
    generalize k % 3 = r at *
    subst h1
    obtain ⟨c0, c1, c2⟩ := (p.set j q).cell m h2
    obtain ⟨d0, d1, d2⟩ := p.cell m h2
    rw [P8.set_at _ _ _ _ h2] at c0 c1 c2
    by_cases e : j = m
    · subst e
      rw [if_pos rfl] at c0 c1 c2
      rw [if_pos (by omega), show j * 3 + r - j * 3 = r by omega]
      match r, h3 with
      | 0, _ => exact c0
      | 1, _ => exact c1
      | 2, _ => exact c2
    · rw [if_neg e] at c0 c1 c2
      rw [if_neg (by omega)]
      match r, h3 with
      | 0, _ => exact c0.trans d0.symm
      | 1, _ => exact c1.trans d1.symm
      | 2, _ => exact c2.trans d2.symm
  · rw [if_neg (by omega), List.getElem?_eq_none (by rw [P8.cs_len]; omega), List.getElem?_eq_none (by rw [P8.cs_len]; omega)]
theorem Blk.p8There (h : Blk w g t p.cs.toArray) (j : Nat) (hj : j < 8) : w.there g (j * 3) 3 := h.there _ _ (by rw [List.size_toArray, P8.cs_len]; omega)
end
/-! ### What is told of eight pointers, of a sector -/
def all8 (p : P8) : Bool := p.l.all rightQ
theorem bsQ_len {q : PtrV} (h : rightQ q = true) : (bsQ q).length = 16 := by
  unfold bsQ bsF
  rw [if_pos (show qrightF q.1 q.2.1 q.2.2 = true from h), ptrBytes_len]
theorem flat_bs : ∀ {l : List PtrV}, l.all rightQ = true → (l.flatMap bsQ).length = l.length * 16
  | [], _ => rfl
  | q :: r, h => by
    simp only [List.all_cons, Bool.and_eq_true] at h
    have := flat_bs h.2
    rw [List.flatMap_cons, List.length_append, bsQ_len h.1, this, List.length_cons]
    omega
def nbS (p : P8) : Sec := if h : all8 p = true then ⟨p.l.flatMap bsQ, by rw [flat_bs h, p.h]⟩ else zsec
def nbC (p : P8) : Int := if all8 p = true then 0 else 51
theorem nbS_yes {p : P8} (h : all8 p = true) : (nbS p).l = p.l.flatMap bsQ := by unfold nbS; rw [dif_pos h]
theorem nbS_no {p : P8} (h : all8 p = false) : nbS p = zsec := by unfold nbS; rw [dif_neg (by simp [h])]
def part8 (s : Sec) (j : Nat) : List UInt8 := (s.l.drop (16 * j)).take 16
theorem part8_len (s : Sec) (j : Nat) (hj : j < 8) : (part8 s j).length = 16 := by unfold part8; rw [List.length_take, List.length_drop, s.h]; omega
def rdQ (l : List UInt8) : PtrV := (rdA l, rdB l, rdS l)
def okP (s : Sec) : Bool := (List.range 8).all fun j => okF (part8 s j)
def nrP (s : Sec) : P8 := if okP s = true then ⟨(List.range 8).map fun j => rdQ (part8 s j), by rw [List.length_map, List.length_range]⟩ else zp8
def nrC (s : Sec) : Int := if okP s = true then 0 else 51
def emptyF (p : P8) : Bool := p.l.all fun q => holeF q.1 q.2.1 q.2.2
def maxB : List PtrV → Int
  | [] => 0
  | q :: r => max q.2.1 (maxB r)
def newestF (p : P8) : Int := maxB p.l
end
section
open Go.RowKit

theorem at_eq (p : P8) (k : Nat) (hk : k < 8) : p.at_ k = p.l[k]'(by rw [p.h]; exact hk) := by
  have h : k < p.l.length := by rw [p.h]; exact hk
  simp [P8.at_, List.getD, h]
theorem take8 {α : Type} (p : List α) (k : Nat) (hk : k < p.length) : p.take (k + 1) = p.take k ++ [p[k]] := List.take_succ_eq_append_getElem hk
def maxTo (l : List PtrV) : Int := l.foldl (fun n q => if n < q.2.1 then q.2.1 else n) 0
theorem foldl_max : ∀ (l : List PtrV) (n : Int), l.foldl (fun n q => if n < q.2.1 then q.2.1 else n) n = max n (l.foldl (fun n q => if n < q.2.1 then q.2.1 else n) 0) ∨ n < 0 ∨ ∃ q ∈ l, q.2.1 < 0
  | [], n => by
    by_cases h : n < 0
    · exact .inr (.inl h)
    · left
      show n = max n 0
      omega
  | q :: r, n => by
    by_cases h : n < 0
    · exact .inr (.inl h)
    · by_cases hq : q.2.1 < 0
      · exact .inr (.inr ⟨q, List.mem_cons_self, hq⟩)
      · rcases foldl_max r (if n < q.2.1 then q.2.1 else n) with h1 | h1 | ⟨q', h1, h2⟩
        · rcases foldl_max r (if (0 : Int) < q.2.1 then q.2.1 else 0) with h2 | h2 | ⟨q', h2, h3⟩
          · left
            show r.foldl _ (if n < q.2.1 then q.2.1 else n) = max n (r.foldl _ (if (0 : Int) < q.2.1 then q.2.1 else 0))
            rw [h1, h2]
            split <;> split <;> omega
          · exfalso
            split at h2 <;> omega
          · exact .inr (.inr ⟨q', List.mem_cons_of_mem _ h2, h3⟩)
        · exfalso
          split at h1 <;> omega
        · exact .inr (.inr ⟨q', List.mem_cons_of_mem _ h1, h2⟩)
theorem maxTo_eq : ∀ {l : List PtrV}, (∀ q ∈ l, 0 ≤ q.2.1) → maxTo l = maxB l
  | [], _ => rfl
  | q :: r, h => by
    have hq := h q List.mem_cons_self
    have ih := maxTo_eq (l := r) fun x hx => h x (List.mem_cons_of_mem _ hx)
    unfold maxTo at ih ⊢
    show r.foldl _ (if (0 : Int) < q.2.1 then q.2.1 else 0) = max q.2.1 (maxB r)
    have e : (if (0 : Int) < q.2.1 then q.2.1 else 0) = q.2.1 := by split <;> omega
    rw [e, ← ih]
    rcases foldl_max r q.2.1 with h1 | h1 | ⟨q', h1, h2⟩
    · exact h1
    · omega
    · have := h q' (List.mem_cons_of_mem _ h1)
      omega
end
section
open Go.RowKit

theorem bytes_bad {q : PtrV} (h : rightQ q = false) : bsQ q = [] ∧ bsC q.1 q.2.1 q.2.2 = 51 := by
  unfold bsQ bsF bsC
  rw [if_neg (by rw [show qrightF q.1 q.2.1 q.2.2 = false from h]; simp), if_neg (by rw [show qrightF q.1 q.2.1 q.2.2 = false from h]; simp)]
  exact ⟨rfl, rfl⟩
theorem bytes_ok {q : PtrV} (h : rightQ q = true) : bsC q.1 q.2.1 q.2.2 = 0 := by
  unfold bsC
  rw [if_pos (show qrightF q.1 q.2.1 q.2.2 = true from h)]
def cutK (l : List UInt8) (k : Nat) : Sec := ⟨(l.take k ++ List.replicate 128 0).take 128, by rw [List.length_take, List.length_append, List.length_replicate]; omega⟩
theorem cutK_zero (l : List UInt8) : cutK l 0 = zsec := by kernel_rfl
theorem cutK_at (l : List UInt8) (k j : Nat) (hj : j < 128) : (cutK l k).cs[j]? = some (.int .u8 (((l.take k).getD j 0).toNat : Int)) := by
  rw [Sec.at_ _ j hj]
  congr 3
  simp only [cutK, List.getElem_take, List.getD]
  by_cases h : j < (l.take k).length
  · rw [List.getElem_append_left h, List.getElem?_eq_getElem h]
    rfl
  · rw [List.getElem_append_right (by omega), List.getElem?_eq_none (by omega), List.getElem_replicate]
    rfl
theorem cutK_set {l : List UInt8} {k : Nat} (hk : k < l.length) (h8 : k < 128) : (cutK l k).cs.toArray.setIfInBounds k (.int .u8 (l[k].toNat : Int)) = (cutK l (k + 1)).cs.toArray := by
  refine Array.ext_getElem? fun j => ?_
  rw [Array.getElem?_setIfInBounds, List.getElem?_toArray, List.getElem?_toArray, List.size_toArray, Sec.cs_len]
  by_cases hj : j < 128
  · rw [cutK_at _ _ _ hj, cutK_at _ _ _ hj]
    simp only [List.getD, List.getElem?_take]
    by_cases h : k = j
    · subst h
      rw [if_pos rfl, if_pos hj, if_pos (by omega), List.getElem?_eq_getElem hk]
      rfl
    · rw [if_neg h]
      by_cases h2 : j < k
      · rw [if_pos h2, if_pos (by omega)]
      · rw [if_neg h2, if_neg (by omega)]
  · rw [if_neg (by omega), List.getElem?_eq_none (by rw [Sec.cs_len]; omega), List.getElem?_eq_none (by rw [Sec.cs_len]; omega)]
theorem cutK_all {p : P8} (h : all8 p = true) : cutK (p.l.flatMap bsQ) 128 = nbS p := by
  refine Sec.eq ?_
  rw [nbS_yes h]
  have hl : (p.l.flatMap bsQ).length = 128 := by rw [flat_bs h, p.h]
  show ((p.l.flatMap bsQ).take 128 ++ List.replicate 128 0).take 128 = _
  rw [List.take_of_length_le (l := p.l.flatMap bsQ) (by omega), List.take_left' hl]
/-- append(b, t...) of bytes. -/
theorem app_bs {ops : Array Oper} {rest : List Oper} {o : Oper} {a : Act} {w : World} {Q : Exit → Act → World → Prop} (hgd : o.guard = none) (s x : Nat)
    (ho : o.op = .call { callee := .builtin .append, args := #[.tmp s, .tmp x], argTypes := #[34, 34] })
    (base : Nat) (v : Value) (l : List UInt8) (hs : a.eval (.tmp s) = v) (hown : OwnB w base v l) (B : Nat) (A : Option Addr) (m c : Nat) (t : List UInt8)
    (hx : a.eval (.tmp x) = .slice A m c) (hm : t.length = m) (hr : Rd w B A (bys t)) (hbase : base ≤ w.heap.size) (hn : l.length + m ≤ 140737488355328)
    (h : ∀ v' w', OwnB w' base v' (l ++ t) → w.grownBy w' v.ownBlock → wpList Try.prog ops Q rest (a.put o.dst v') w') :
    wpList Try.prog ops Q (o :: rest) a w := by
  subst hm
  refine app_all Try.underlying34 infoByte rfl hgd s x ho base v l.length (bys l) hs hown B A t.length c _ hx (by rw [bys_len]) hr bys_one hbase (by omega) (by omega) ?_
  intro v' w' h1 h2
  exact h v' w' (ownB_app h1) h2
end
section
open Go.RowKit

theorem sizeU8 : (Try.prog.info? 5).map (·.size) = some 1 := by kernel_rfl
theorem run_sizeSecE (w : World) : (sizeOf (Try.prog.elem 46)).run Try.prog w = .ok 1 w := by
  obtain ⟨i, hi, hz⟩ := Option.map_eq_some_iff.1 sizeU8
  have he : Try.prog.elem 46 = 5 := by simp [Program.elem, Try.underlying46]
  rw [he]
  simp [sizeOf, typeInfo, hi, hz]
theorem arrLenSec : Try.prog.arrayLen 46 = 128 := by simp [Program.arrayLen, Try.underlying46]
theorem run_cut8 (g k : Nat) (hk : k < 8) (w : World) :
    (Instr.sliceAt 46 (.pointer (some ⟨g, 0, none⟩)) (some (.int .i64 (16 * (k : Int)))) (some (.int .i64 (16 * (k : Int) + 16))) none).run Try.prog w = .ok (.slice (some ⟨g, 16 * k, none⟩) 16 (128 - 16 * k)) w := by
  rw [run_sliceAt_array_lh w _ ⟨g, 0, none⟩ (by simp [Program.arrayLen, Program.elem, Try.underlying46]) .i64 .i64 (16 * (k : Int)) (16 * (k : Int) + 16) (by omega) (by omega) (by rw [arrLenSec]; omega), run_sizeSecE]
  have e1 : (16 * (k : Int)).toNat = 16 * k := by omega
  have e2 : (16 * (k : Int) + 16).toNat = 16 * k + 16 := by omega
  simp only [Result.andThen_ok, slicedAt, arrLenSec, e1, e2, Nat.mul_one]
  rw [if_neg (by omega), show 16 * k + 16 - 16 * k = 16 by omega, addr_flat, Nat.zero_add]
/-- A pointer is stored as one of eight. -/
theorem st_pq {ops : Array Oper} {rest : List Oper} {o : Oper} {a : Act} {w : World} {Q : Exit → Act → World → Prop} (hgd : o.guard = none) (x y : Operand) (ho : o.op = .store 25 x y)
    (b k : Nat) (q : PtrV) (hx : a.eval x = .pointer (some ⟨b, k, none⟩)) (hy : a.eval y = ptq q) (ht : w.there b k 3)
    (h : ∀ w', Hid (w' = w.setCells b k [.int .i64 q.1, .int .u64 q.2.1, .int .u32 q.2.2]) → wpList Try.prog ops Q rest (a.put o.dst undef) w') : wpList Try.prog ops Q (o :: rest) a w :=
  wpList_store_mid hgd _ x y ho b k #[.int .i64 q.1, .int .u64 q.2.1, .int .u32 q.2.2] hx hy ht ptr_size (by simp [Value.oneCell']) (h _ rfl)
def setsK (s : Sec) : Nat → P8
  | 0 => zp8
  | k + 1 => (setsK s k).set k (rdQ (part8 s k))
theorem setsK_at (s : Sec) : ∀ (k j : Nat), j < 8 → (setsK s k).at_ j = if j < k then rdQ (part8 s j) else hole0
  | 0, j, hj => by
    rw [if_neg (by omega)]
    show zp8.l.getD j hole0 = hole0
    simp only [zp8, List.getD, List.getElem?_replicate, if_pos hj]
    rfl
  | k + 1, j, hj => by
    show ((setsK s k).set k (rdQ (part8 s k))).at_ j = _
    rw [P8.set_at _ _ _ _ hj, setsK_at s k j hj]
    by_cases e : k = j
    · subst e
      rw [if_pos rfl, if_pos (by omega)]
    · rw [if_neg e]
      by_cases h : j < k
      · rw [if_pos h, if_pos (by omega)]
      · rw [if_neg h, if_neg (by omega)]
theorem setsK_all {s : Sec} (h : okP s = true) : setsK s 8 = nrP s := by
  refine P8.ext fun j hj => ?_
  rw [setsK_at s 8 j hj, if_pos hj]
  unfold nrP
  rw [if_pos h]
  simp [P8.at_, List.getD, hj]
theorem ok_upto (s : Sec) (k : Nat) : ((List.range (k + 1)).all fun j => okF (part8 s j)) = (((List.range k).all fun j => okF (part8 s j)) && okF (part8 s k)) := by
  rw [List.range_succ, List.all_append]
  simp
theorem okP_no {s : Sec} {k : Nat} (hk : k < 8) (h : okF (part8 s k) = false) : okP s = false := by
  unfold okP
  rw [Bool.eq_false_iff]
  intro e
  have := List.all_eq_true.1 e k (List.mem_range.2 hk)
  rw [h] at this
  cases this
theorem zeroPtr8 (w : World) : Sem.run Try.prog (zeroValue 25) w = .ok (ptv 0 0 0) w := by
  obtain ⟨i, hi⟩ : ∃ i, Try.prog.info? 25 = some i := info_of_underlying Try.underlying25
  have h : (Try.prog.info? 25).map (fun i => i.zero) = some (some (ptv 0 0 0)) := by kernel_rfl
  rw [hi] at h
  simp only [Option.map_some, Option.some.injEq] at h
  simp [zeroValue, typeInfo, hi, h]
theorem Blk.part {w : World} {g : Nat} {t : TypeId} {s : Sec} (h : Blk w g t s.cs.toArray) (k : Nat) : Rd w w.heap.size (some ⟨g, 16 * k, none⟩) (bys (part8 s k)) := fun _ => by
  refine ⟨g, 16 * k, rfl, h.lt, fun j v hv => ?_⟩
  rw [h.cell, List.getElem?_toArray]
  unfold part8 at hv
  rw [← bys_take, ← bys_drop, List.getElem?_take] at hv
  split at hv
  · rw [List.getElem?_drop] at hv
    exact hv
  · cases hv
end
section
open Go.RowKit

def sameQ (a b : PtrV) : Bool := a.1 == b.1 && a.2.1 == b.2.1 && a.2.2 == b.2.2
theorem sameQ_iff {a b : PtrV} : sameQ a b = true ↔ a = b := by
  obtain ⟨a1, a2, a3⟩ := a
  obtain ⟨b1, b2, b3⟩ := b
  simp [sameQ, and_assoc]
theorem p8_cut (p : P8) (k : Nat) (hk : k < 8) : p.cs.toArray.extract (k * 3) (k * 3 + 3) = #[.int .i64 (p.at_ k).1, .int .u64 (p.at_ k).2.1, .int .u32 (p.at_ k).2.2] := by
  obtain ⟨h0, h1, h2⟩ := p.cell k hk
  have hs : p.cs.toArray.size = 24 := by rw [List.size_toArray, P8.cs_len]
  refine Array.ext_getElem? fun j => ?_
  rw [Array.getElem?_extract, hs]
  match j with
  | 0 => rw [if_pos (by omega), List.getElem?_toArray]; exact h0
  | 1 => rw [if_pos (by omega), List.getElem?_toArray]; exact h1
  | 2 => rw [if_pos (by omega), List.getElem?_toArray]; exact h2
  | j + 3 => rw [if_neg (by omega)]; simp
theorem cellsPtr : Try.prog.cellsOf 25 = 3 := by kernel_rfl
theorem p8_cutL (p : P8) (k : Nat) (hk : k < 8) : List.take 3 (List.drop (k * 3) p.cs) = [.int .i64 (p.at_ k).1, .int .u64 (p.at_ k).2.1, .int .u32 (p.at_ k).2.2] := by
  have hc := congrArg Array.toList (p8_cut p k hk)
  simp only [List.extract_toArray] at hc
  rw [← hc]
  simp
theorem run_partP (p : P8) (k : Nat) (hk : k < 8) (w : World) : (part 25 p.cs.toArray (k * 3)).run Try.prog w = .ok (ptq (p.at_ k)) w := by
  have hc2 := p8_cutL p k hk
  simp [part, isAgg, run_underlying Try.underlying25, hc2, Sem.run_bind, Sem.run_pure]
theorem run_ixP8 (p : P8) (k : Nat) (hk : k < 8) (w : World) : (Instr.index 84 (.agg p.cs.toArray) (.int .i64 (k : Int))).run Try.prog w = .ok (ptq (p.at_ k)) w := by
  obtain ⟨i, hi⟩ : ∃ i, Try.prog.info? 25 = some i := info_of_underlying Try.underlying25
  have hs := run_sizeOf w hi
  rw [cellsPtr] at hs
  have hc2 := p8_cutL p k hk
  simp [Instr.index, asIntOf, run_underlying Try.underlying84, hs, hc2, hk, go_sem]
theorem ex_ixP8 {o : Oper} {a : Act} {w : World} (x y : Operand) (ho : o.op = .index 84 x y) (p : P8) (k : Nat) (hk : k < 8) (hx : a.eval x = .agg p.cs.toArray) (hy : a.eval y = .int .i64 (k : Int)) : (execOp a.eval o).run Try.prog w = .ok (.value (ptq (p.at_ k))) w := by
  have h := run_ixP8 p k hk w
  unfold execOp
  simp [ho, hx, hy, h]
theorem ex_ldPq {o : Oper} {a : Act} {w : World} (x : Operand) (ho : o.op = .load 25 x) (g : Nat) (i j k : Int) (hx : a.eval x = .pointer (some ⟨g, 0, none⟩)) (hg : Blk w g 25 #[.int .i64 i, .int .u64 j, .int .u32 k]) :
    (execOp a.eval o).run Try.prog w = .ok (.value (ptv i j k)) w := by
  have h := run_loadAt_mid w g 0 _ [.int .i64 i, .int .u64 j, .int .u32 k] _ (hg.range 0 _ fun j v hv => by rw [Nat.zero_add, List.getElem?_toArray]; exact hv) Try.underlying25 rfl ptr_size
  unfold execOp
  simp only [ho, hx, h, Sem.run_bind, Sem.run_pure, Result.andThen_ok]
theorem run_eqPI (x y : PtrV) (w : World) : (Op.equalIn 9999 25 (ptq x) (ptq y)).run Try.prog w = .ok (sameQ x y) w := by
  obtain ⟨a, b, s⟩ := x
  obtain ⟨a', b', s'⟩ := y
  have u1 := Try.underlying3
  have u2 := Try.underlying22
  have u3 := Try.underlying23
  have c1 : Try.prog.cellsOf 3 = 1 := by kernel_rfl
  have c2 : Try.prog.cellsOf 22 = 1 := by kernel_rfl
  have c3 : Try.prog.cellsOf 23 = 1 := by kernel_rfl
  rw [show (9999 : Nat) = 9998 + 1 from rfl, run_equalIn_agg w 9998 25 _ _ ptr_struct ptr_plain]
  simp only [Program.fieldsOf, Try.underlying25]
  go_simp
  by_cases h1 : a = a' <;> by_cases h2 : b = b' <;> by_cases h3 : s = s' <;> simp [h1, h2, h3, sameQ]
def P8.same (p q : P8) : Bool := (List.range 8).all fun i => sameQ (p.at_ i) (q.at_ i)
theorem P8.same_iff {p q : P8} : p.same q = true ↔ p = q := by
  unfold P8.same
  rw [List.all_eq_true]
  constructor
  · intro h
    exact P8.ext fun j hj => sameQ_iff.1 (h j (List.mem_range.2 hj))
  · rintro rfl j _
    exact sameQ_iff.2 rfl
theorem run_eqItP (p q : P8) (w : World) : ∀ is : List Nat, (∀ i ∈ is, i < 8) → (Op.eqItems 9999 25 3 p.cs.toArray q.cs.toArray is).run Try.prog w = .ok (is.all fun i => sameQ (p.at_ i) (q.at_ i)) w
  | [], _ => by simp [Op.eqItems]
  | i :: is, h => by
    have ih := run_eqItP p q w is fun j hj => h j (List.mem_cons_of_mem _ hj)
    simp only [Op.eqItems, Sem.run_bind, run_partP p i (h i List.mem_cons_self) w, run_partP q i (h i List.mem_cons_self) w, run_eqPI, Result.andThen_ok, List.all_cons]
    cases sameQ (p.at_ i) (q.at_ i)
    · simp
    · simpa using ih
theorem run_eqP8 (p q : P8) (w : World) : (Op.equal 84 (.agg p.cs.toArray) (.agg q.cs.toArray)).run Try.prog w = .ok (p.same q) w := by
  obtain ⟨iu, hiu⟩ : ∃ i, Try.prog.info? 25 = some i := info_of_underlying Try.underlying25
  unfold Op.equal Op.maxDepth
  rw [run_equalIn_array (P := Try.prog) w 9999 _ _ Try.underlying84 hiu, cellsPtr]
  exact run_eqItP p q w _ fun i hi => List.mem_range.1 hi
theorem ex_eqP8 {o : Oper} {a : Act} {w : World} (x y : Operand) (ho : o.op = .binOp .eql 84 x y 84) (p q : P8) (hx : a.eval x = .agg p.cs.toArray) (hy : a.eval y = .agg q.cs.toArray) :
    (execOp a.eval o).run Try.prog w = .ok (.value (.bool (p.same q))) w := by
  unfold execOp
  simp [ho, hx, hy, eqGuard, binOp, run_eqP8]
theorem ex_neP8 {o : Oper} {a : Act} {w : World} (x y : Operand) (ho : o.op = .binOp .neq 84 x y 84) (p q : P8) (hx : a.eval x = .agg p.cs.toArray) (hy : a.eval y = .agg q.cs.toArray) :
    (execOp a.eval o).run Try.prog w = .ok (.value (.bool (!p.same q))) w := by
  unfold execOp
  simp [ho, hx, hy, eqGuard, binOp, run_eqP8]
theorem ex_ldP8 {o : Oper} {a : Act} {w : World} (x : Operand) (ho : o.op = .load 84 x) (g : Nat) (p : P8) (hx : a.eval x = .pointer (some ⟨g, 0, none⟩)) (hg : Blk w g 84 p.cs.toArray) :
    (execOp a.eval o).run Try.prog w = .ok (.value (.agg p.cs.toArray)) w := by
  have h := run_loadAt_mid w g 0 _ p.cs _ hg.p8Is Try.underlying84 rfl (sizeP8' p)
  unfold execOp
  simp only [ho, hx, h, Sem.run_bind, Sem.run_pure, Result.andThen_ok]
def p7 : P8 := zp8.set 7 (9, 3, 1)
theorem buildP7 (w : World) : (Instr.build 84 #[(7, ptv 9 3 1)]).run Try.prog w = .ok (.agg p7.cs.toArray) w := by
  refine run_build w _ _ _ ?_
  kernel_rfl
theorem ex_buildP7 {o : Oper} {a : Act} {w : World} (x : Operand) (ho : o.op = .build 84 #[(7, x)]) (hx : a.eval x = ptv 9 3 1) :
    (execOp a.eval o).run Try.prog w = .ok (.value (.agg p7.cs.toArray)) w := by
  have hb := buildP7 w
  unfold execOp
  simp only [ho, hx, List.map_toArray, List.map_cons, List.map_nil, Sem.run_bind, hb, Sem.run_pure, Result.andThen_ok]
theorem p7_s : all8 p7 = true ∧ nbC p7 = 0 ∧ emptyF p7 = false ∧ newestF p7 = 3 := by decide +kernel
theorem p7_ok : p7.ok := by
  intro q hq
  have h : q ∈ List.set (List.replicate 8 hole0) 7 ((9, 3, 1) : PtrV) := hq
  rcases List.mem_or_eq_of_mem_set h with h | h
  · rw [List.eq_of_mem_replicate h]
    unfold PtrOk hole0
    refine ⟨?_, ?_, ?_, ?_, ?_, ?_⟩ <;> simp only <;> omega
  · rw [h]
    unfold PtrOk
    refine ⟨?_, ?_, ?_, ?_, ?_, ?_⟩ <;> simp only <;> omega
theorem p7_at : (nbS p7).l.getD 112 0 = 9 ∧ (nbS p7).l.getD 116 0 = 3 ∧ (nbS p7).l.getD 124 0 = 1 := by decide +kernel
theorem p7_back : nrP (nbS p7) = p7 ∧ nrC (nbS p7) = 0 := by
  constructor
  · exact P8.eq (by decide +kernel)
  · decide +kernel
end
section
open Go.RowKit

theorem p7_c1 : (nbS p7).cs.toArray[112]? = some (.int .u8 9) := by
  rw [List.getElem?_toArray]
  kernel_rfl
theorem p7_c2 : (nbS p7).cs.toArray[116]? = some (.int .u8 3) := by
  rw [List.getElem?_toArray]
  kernel_rfl
theorem p7_c3 : (nbS p7).cs.toArray[124]? = some (.int .u8 1) := by
  rw [List.getElem?_toArray]
  kernel_rfl
end
section
open Go.RowKit

theorem hole_ok8 : PtrOk hole0 := by
  unfold PtrOk hole0
  refine ⟨?_, ?_, ?_, ?_, ?_, ?_⟩ <;> simp only <;> omega
theorem zp8_ok : zp8.ok := by
  intro q hq
  rw [List.eq_of_mem_replicate (show q ∈ List.replicate 8 hole0 from hq)]
  exact hole_ok8
theorem zp8_s : all8 zp8 = true ∧ nbC zp8 = 0 ∧ emptyF zp8 = true ∧ newestF zp8 = 0 := by decide +kernel
theorem zp8_b : nbS zp8 = zsec := Sec.eq (by decide +kernel)
theorem ex_ldSec {o : Oper} {a : Act} {w : World} (x : Operand) (ho : o.op = .load 46 x) (g : Nat) (s : Sec) (hx : a.eval x = .pointer (some ⟨g, 0, none⟩)) (hg : Blk w g 46 s.cs.toArray) :
    (execOp a.eval o).run Try.prog w = .ok (.value (.agg s.cs.toArray)) w := by
  have h := run_loadAt_mid w g 0 _ s.cs _ hg.secIs Try.underlying46 rfl (sizeSec' s)
  unfold execOp
  simp only [ho, hx, h, Sem.run_bind, Sem.run_pure, Result.andThen_ok]
end
section
open Go.RowKit

theorem flat_part : ∀ {l : List PtrV} (j : Nat) (hj : j < l.length), l.all rightQ = true → ((l.flatMap bsQ).drop (16 * j)).take 16 = bsQ l[j]
  | q :: r, 0, _, h => by
    simp only [List.all_cons, Bool.and_eq_true] at h
    rw [List.flatMap_cons, Nat.mul_zero, List.drop_zero, List.take_append_of_le_length (by rw [bsQ_len h.1]; omega), List.take_of_length_le (by rw [bsQ_len h.1]; omega)]
    rfl
  | q :: r, j + 1, hj, h => by
    simp only [List.all_cons, Bool.and_eq_true] at h
    have hj' : j < r.length := by simp at hj; omega
    have e : (bsQ q ++ r.flatMap bsQ).drop (16 * (j + 1)) = (r.flatMap bsQ).drop (16 * j) := by
      rw [List.drop_append, List.drop_of_length_le (by rw [bsQ_len h.1]; omega), List.nil_append, bsQ_len h.1, show 16 * (j + 1) - 16 = 16 * j by omega]
    rw [List.flatMap_cons, e]
    exact flat_part j hj' h.2
section
variable {p : P8} {s : Sec}
theorem nb_part (h : all8 p = true) (j : Nat) (hj : j < 8) : part8 (nbS p) j = bsQ (p.at_ j) := by
  have hl : j < p.l.length := by rw [p.h]; exact hj
  unfold part8
  rw [nbS_yes h, flat_part j hl h, at_eq p j hj]
theorem all8_at (h : all8 p = true) (j : Nat) (hj : j < 8) : rightQ (p.at_ j) = true := List.all_eq_true.1 h _ (p.at_mem j hj)
theorem all8_iff : all8 p = true ↔ ∀ j, j < 8 → rightQ (p.at_ j) = true := by
  constructor
  · exact fun h j hj => all8_at h j hj
  · intro h
    refine List.all_eq_true.2 fun q hq => ?_
    obtain ⟨j, hj, rfl⟩ := List.getElem_of_mem hq
    have hj8 : j < 8 := by rw [p.h] at hj; exact hj
    have := h j hj8
    rwa [at_eq p j hj8] at this
theorem ok_iff : p.ok ↔ ∀ j, j < 8 → PtrOk (p.at_ j) := by
  constructor
  · exact fun h j hj => h _ (p.at_mem j hj)
  · intro h q hq
    obtain ⟨j, hj, rfl⟩ := List.getElem_of_mem hq
    have hj8 : j < 8 := by rw [p.h] at hj; exact hj
    have := h j hj8
    rwa [at_eq p j hj8] at this
theorem nrP_at (h : okP s = true) (j : Nat) (hj : j < 8) : (nrP s).at_ j = rdQ (part8 s j) := by
  rw [at_eq _ j hj]
  unfold nrP
  simp only [if_pos h, List.getElem_map, List.getElem_range]
/-- Bytes, read again. -/
theorem back8 (hp : p.ok) (h : all8 p = true) : okP (nbS p) = true ∧ nrP (nbS p) = p ∧ nrC (nbS p) = 0 := by
  have e : ∀ j, j < 8 → okF (part8 (nbS p) j) = true ∧ rdQ (part8 (nbS p) j) = p.at_ j := fun j hj => by
    rw [nb_part h j hj]
    obtain ⟨h1, h2, h3, h4, -⟩ := back_ptr (hp _ (p.at_mem j hj)) (all8_at h j hj)
    refine ⟨h1, ?_⟩
    show (_, _, _) = p.at_ j
    unfold bsQ
    rw [h2, h3, h4]
  have ho : okP (nbS p) = true := List.all_eq_true.2 fun j hj => (e j (List.mem_range.1 hj)).1
  exact ⟨ho, P8.ext fun j hj => by rw [nrP_at ho j hj, (e j hj).2], if_pos ho⟩
theorem part_all (s : Sec) : (List.range 8).flatMap (part8 s) = s.l := by
  have g : ∀ n, n ≤ 8 → (List.range n).flatMap (part8 s) = s.l.take (16 * n) := by
    intro n
    induction n with
    | zero => intro _; simp
    | succ n ih =>
      intro hn
      rw [List.range_succ, List.flatMap_append, ih (by omega), show 16 * (n + 1) = 16 * n + 16 by omega, List.take_add]
      simp [part8]
  rw [g 8 (by omega), List.take_of_length_le (by rw [s.h]; omega)]
theorem nr_ok (s : Sec) : (nrP s).ok := by
  rcases ho : okP s with _ | _
  · unfold nrP
    rw [if_neg (by simp [ho])]
    exact zp8_ok
  · refine ok_iff.2 fun j hj => ?_
    rw [nrP_at ho j hj]
    exact rd_is _
/-- A sector, read, as Bytes. -/
theorem read8 (h : okP s = true) : all8 (nrP s) = true ∧ nbS (nrP s) = s ∧ nbC (nrP s) = 0 ∧ nrC s = 0 := by
  have e : ∀ j, j < 8 → rightQ (rdQ (part8 s j)) = true ∧ bsQ (rdQ (part8 s j)) = part8 s j := fun j hj => by
    have ho : okF (part8 s j) = true := List.all_eq_true.1 h j (List.mem_range.2 hj)
    obtain ⟨h1, h2⟩ := back_bys ho
    refine ⟨?_, h1⟩
    show qrightF (rdA (part8 s j)) (rdB (part8 s j)) (rdS (part8 s j)) = true
    cases hr : qrightF (rdA (part8 s j)) (rdB (part8 s j)) (rdS (part8 s j)) with
    | true => rfl
    | false =>
      unfold bsC at h2
      rw [if_neg (by simp [hr])] at h2
      exact absurd h2 (by decide)
  have ha : all8 (nrP s) = true := all8_iff.2 fun j hj => by rw [nrP_at h j hj]; exact (e j hj).1
  refine ⟨ha, Sec.eq ?_, if_pos ha, if_pos h⟩
  rw [nbS_yes ha]
  have hl : (nrP s).l = (List.range 8).map fun j => rdQ (part8 s j) := by unfold nrP; rw [if_pos h]
  rw [hl, List.flatMap_map, ← part_all s]
  have g : ∀ is : List Nat, (∀ j ∈ is, j < 8) → is.flatMap (fun j => bsQ (rdQ (part8 s j))) = is.flatMap (part8 s) := by
    intro is
    induction is with
    | nil => intro _; rfl
    | cons j r ih =>
      intro hj
      rw [List.flatMap_cons, List.flatMap_cons, (e j (hj j List.mem_cons_self)).2, ih fun k hk => hj k (List.mem_cons_of_mem _ hk)]
  exact g _ fun j hj => List.mem_range.1 hj
theorem read8_no (h : okP s = false) : nrP s = zp8 ∧ nrC s = 51 := ⟨if_neg (by simp [h]), if_neg (by simp [h])⟩
theorem maxB_le : ∀ {l : List PtrV} {q : PtrV}, q ∈ l → q.2.1 ≤ maxB l
  | x :: r, q, h => by
    show _ ≤ max x.2.1 (maxB r)
    rcases List.mem_cons.1 h with rfl | h
    · omega
    · have := maxB_le h
      omega
theorem newest_le (j : Nat) (hj : j < 8) : (p.at_ j).2.1 ≤ newestF p := maxB_le (p.at_mem j hj)
theorem since_no {q : PtrV} {t : Int} (h : q.2.1 ≤ t) : sinceF q.1 q.2.1 q.2.2 t = false := by
  unfold sinceF
  rw [decide_eq_false (by omega), Bool.and_false]
theorem nbC_iff : nbC p = 0 ↔ all8 p = true := by
  unfold nbC
  split
  · simp [*]
  · simp [*]
theorem set_ok (hp : p.ok) {q : PtrV} (hq : PtrOk q) (i : Nat) : (p.set i q).ok := ok_iff.2 fun j hj => by
  rw [P8.set_at _ _ _ _ hj]
  split
  · exact hq
  · exact hp _ (p.at_mem j hj)
theorem set_same (q : PtrV) {i : Nat} (hi : i < 8) : p.set i q = p ↔ p.at_ i = q := by
  constructor
  · intro h
    rw [← h, P8.set_at _ _ _ _ hi, if_pos rfl]
  · intro h
    exact P8.ext fun j hj => by
      rw [P8.set_at _ _ _ _ hj]
      split
      · subst_vars; rfl
      · rfl
theorem nbS_inj {k : P8} (hp : p.ok) (hk : k.ok) (h1 : all8 p = true) (h2 : all8 k = true) : nbS p = nbS k ↔ p = k := by
  constructor
  · intro h
    rw [← (back8 hp h1).2.1, ← (back8 hk h2).2.1, h]
  · rintro rfl
    rfl
theorem set_newest (q : PtrV) {i : Nat} (hi : i < 8) : q.2.1 ≤ newestF (p.set i q) := by
  have := newest_le (p := p.set i q) i hi
  rwa [P8.set_at _ _ _ _ hi, if_pos rfl] at this
/-- One alone. -/
theorem one_right {q : PtrV} (hq : rightQ q = true) (i : Nat) : all8 (zp8.set i q) = true := all8_iff.2 fun j hj => by
  rw [P8.set_at _ _ _ _ hj]
  split
  · exact hq
  · have h : all8 zp8 = true := zp8_s.1
    exact all8_at h j hj
theorem one_at {q : PtrV} (hq : rightQ q = true) (i k : Nat) (hk : k < 128) : (nbS (zp8.set i q)).l.getD k 0 = if k / 16 = i then (bsQ q).getD (k % 16) 0 else 0 := by
  have h1 := nb_part (one_right hq i) (k / 16) (by omega)
  have h2 : (part8 (nbS (zp8.set i q)) (k / 16)).getD (k % 16) 0 = (nbS (zp8.set i q)).l.getD k 0 := by
    unfold part8
    simp only [List.getD, List.getElem?_take, List.getElem?_drop]
    rw [if_pos (by omega), show 16 * (k / 16) + k % 16 = k by omega]
  rw [← h2, h1, P8.set_at _ _ _ _ (by omega)]
  by_cases h : i = k / 16
  · rw [if_pos h, if_pos h.symm]
  · rw [if_neg h, if_neg (fun e => h e.symm)]
    have hz : zp8.at_ (k / 16) = hole0 := by
      rw [at_eq _ _ (by omega)]
      exact List.getElem_replicate ..
    rw [hz]
    have h3 : ∀ j, j < 16 → (bsQ hole0).getD j 0 = 0 := by decide +kernel
    exact h3 _ (by omega)
theorem one_empty (q : PtrV) {i : Nat} (hi : i < 8) : emptyF (zp8.set i q) = holeF q.1 q.2.1 q.2.2 := by
  have h : ∀ l : List PtrV, (∀ x ∈ l, holeF x.1 x.2.1 x.2.2 = true) → ∀ i, i < l.length → (l.set i q).all (fun x => holeF x.1 x.2.1 x.2.2) = holeF q.1 q.2.1 q.2.2 := by
    intro l
    induction l with
    | nil => intro _ i h; simp at h
    | cons x r ih =>
      intro hx i hi
      cases i with
      | zero =>
        simp only [List.set_cons_zero, List.all_cons]
        rw [List.all_eq_true.2 fun y hy => hx y (List.mem_cons_of_mem _ hy), Bool.and_true]
      | succ i =>
        simp only [List.set_cons_succ, List.all_cons]
        rw [hx x List.mem_cons_self, Bool.true_and]
        exact ih (fun y hy => hx y (List.mem_cons_of_mem _ hy)) i (by simp at hi; omega)
  exact h (List.replicate 8 hole0) (fun x hx => by rw [List.eq_of_mem_replicate hx]; rfl) i (by rw [List.length_replicate]; exact hi)
end
end
section
open Go.RowKit

theorem same_zero (p : P8) : p.same zp8 = emptyF p := by
  have h : ∀ j, j < 8 → sameQ (p.at_ j) (zp8.at_ j) = holeF (p.at_ j).1 (p.at_ j).2.1 (p.at_ j).2.2 := fun j hj => by
    have hz : zp8.at_ j = hole0 := by
      rw [at_eq _ _ hj]
      exact List.getElem_replicate ..
    rw [hz]
    rfl
  have h2 : p.same zp8 = true ↔ emptyF p = true := by
    unfold P8.same emptyF
    rw [List.all_eq_true, List.all_eq_true]
    constructor
    · intro g q hq
      obtain ⟨j, hj, rfl⟩ := List.getElem_of_mem hq
      have hj8 : j < 8 := by rw [p.h] at hj; exact hj
      have := g j (List.mem_range.2 hj8)
      rw [h j hj8, at_eq p j hj8] at this
      exact this
    · intro g j hj
      have hj8 := List.mem_range.1 hj
      rw [h j hj8]
      exact g _ (p.at_mem j hj8)
  cases h3 : p.same zp8 <;> cases h4 : emptyF p <;> simp_all
end
section
open Go.RowKit

theorem run_cut8m (g k : Nat) (hk : k < 8) (w : World) :
    (Instr.sliceAt 46 (.pointer (some ⟨g, 0, none⟩)) (some (.int .i64 ((k : Int) * 16))) (some (.int .i64 (((k : Int) + 1) * 16))) none).run Try.prog w = .ok (.slice (some ⟨g, 16 * k, none⟩) 16 (128 - 16 * k)) w := by
  rw [show (k : Int) * 16 = 16 * (k : Int) by omega, show ((k : Int) + 1) * 16 = 16 * (k : Int) + 16 by omega]
  exact run_cut8 g k hk w
set_option maxHeartbeats 2000000 in
theorem nnread_any (s : Sec) (w : World) : Calls Try.prog 54 #[.agg s.cs.toArray] w fun e w' => e = .returned (.tuple #[.agg (nrP s).cs.toArray, .int .i64 (nrC s)]) ∧ Below w.heap.size w w' := by
  have hz : ∀ w, Sem.run Try.prog (zeroValue 84) w = .ok (.agg zp8.cs.toArray) w := zeroP8
  go_enter Try.func54, Try.ntmps54
  have hbl : Blk (((w.alloc (.cells s.cs.toArray 46)).alloc (.cells zp8.cs.toArray 84)).alloc (.cells zp8.cs.toArray 84)) w.heap.size 46 s.cs.toArray := (Blk.new w _ _).below (B := w.heap.size + 1) (((Below.refl _ _).alloc (by simp) _).alloc (by simp) _) (by omega)
  have hbz : Blk (((w.alloc (.cells s.cs.toArray 46)).alloc (.cells zp8.cs.toArray 84)).alloc (.cells zp8.cs.toArray 84)) (w.heap.size + 1) 84 zp8.cs.toArray := by
    have h := Blk.new (w.alloc (.cells s.cs.toArray 46)) 84 zp8.cs.toArray
    rw [show (w.alloc (.cells s.cs.toArray 46)).heap.size = w.heap.size + 1 by simp] at h
    exact h.below (B := w.heap.size + 2) ((Below.refl _ _).alloc (by simp) _) (by omega)
  have hbs : Blk (((w.alloc (.cells s.cs.toArray 46)).alloc (.cells zp8.cs.toArray 84)).alloc (.cells zp8.cs.toArray 84)) (w.heap.size + 2) 84 zp8.cs.toArray := by
    have h := Blk.new ((w.alloc (.cells s.cs.toArray 46)).alloc (.cells zp8.cs.toArray 84)) 84 zp8.cs.toArray
    rw [show ((w.alloc (.cells s.cs.toArray 46)).alloc (.cells zp8.cs.toArray 84)).heap.size = w.heap.size + 2 by simp] at h
    exact h
  have hb0 : Below w.heap.size w (((w.alloc (.cells s.cs.toArray 46)).alloc (.cells zp8.cs.toArray 84)).alloc (.cells zp8.cs.toArray 84)) := (((Below.refl _ _).alloc (Nat.le_refl _) _).alloc (by simp) _).alloc (by simp; omega) _
  have HB2 := Lib.hid (And.intro hbl (And.intro hbz (And.intro hbs hb0)))
  clear hbl hbz hbs hb0
  go_wp2_with fail
  go_loopw [8] (fun i wr => ∃ k : Nat, k ≤ 8 ∧ i = .int .i64 k ∧ ((List.range k).all fun j => okF (part8 s j)) = true ∧ Blk wr w.heap.size 46 s.cs.toArray ∧ Blk wr (w.heap.size + 1) 84 zp8.cs.toArray ∧ Blk wr (w.heap.size + 2) 84 (setsK s k).cs.toArray ∧ Below w.heap.size w wr) (fun i _ => 8 - (intOf i).toNat)
  case atStart => exact ⟨0, by omega, rfl, rfl, HB2.out.1, HB2.out.2.1, HB2.out.2.2.1, HB2.out.2.2.2⟩
  case round =>
    clear HB2
    obtain ⟨k, hk, rfl, hall, hbl, hbz, hbs, hb⟩ := hrel
    by_cases hlt : k < 8
    · have hcut := run_cut8m w.heap.size k hlt
      have hst := ok_upto s k
      rw [hall, Bool.true_and] at hst
      have hno := fun h => okP_no (s := s) (k := k) hlt h
      have hsz := hbs.lt
      have HR : Hid (Calls Try.prog 62 #[.slice (some ⟨w.heap.size, 16 * k, none⟩) 16 (128 - 16 * k)] wr fun e w' => e = .returned (.tuple #[ptq (rdQ (part8 s k)), .int .i64 (rdC (part8 s k))]) ∧ Below wr.heap.size wr w') := by
        have h := qread_any (some ⟨w.heap.size, 16 * k, none⟩) (128 - 16 * k) (part8 s k) (by rw [part8_len s k hlt]; omega) wr (hbl.part k)
        rw [part8_len s k hlt] at h
        exact h
      have HB3 := Lib.hid (And.intro hbl (And.intro hbz (And.intro hbs hb)))
      have hk8 : (k : Int) < 8 := by omega
      have hk0 : (0 : Int) ≤ (k : Int) := by omega
      clear hbl hbz hbs hb hall
      go_wp2_with fail
      refine Calls.mono HR.out ?_
      rintro e w4 ⟨rfl, hb4⟩
      have HB4 := Lib.hid (And.intro (HB3.out.1.below hb4 HB3.out.1.lt) (And.intro (HB3.out.2.1.below hb4 HB3.out.2.1.lt) (And.intro (HB3.out.2.2.1.below hb4 HB3.out.2.2.1.lt) (HB3.out.2.2.2.trans (hb4.mono HB3.out.2.2.2.size)))))
      clear HR HB3 hb4 hcut
      have hz : ∀ w, Sem.run Try.prog (zeroValue 25) w = .ok (ptv 0 0 0) w := zeroPtr8
      have hb5 : Below w4.heap.size w4 (w4.alloc (.cells (pcs (rdQ (part8 s k)).1 (rdQ (part8 s k)).2.1 (rdQ (part8 s k)).2.2) 25)) := (Below.refl _ _).alloc (Nat.le_refl _) _
      have HB5 := Lib.hid (And.intro (HB4.out.1.below hb5 HB4.out.1.lt) (And.intro (HB4.out.2.1.below hb5 HB4.out.2.1.lt) (And.intro (HB4.out.2.2.1.below hb5 HB4.out.2.2.1.lt) (And.intro (HB4.out.2.2.2.trans (hb5.mono HB4.out.2.2.2.size)) (Blk.new w4 25 (pcs (rdQ (part8 s k)).1 (rdQ (part8 s k)).2.1 (rdQ (part8 s k)).2.2))))))
      clear HB4 hb5
      cases hx : okF (part8 s k) with
      | true =>
        rw [hx] at hst
        rw [(rd_yes hx).2.2.2]
        have HS := Lib.hid hst
        clear hst hno hx
        generalize hq : rdQ (part8 s k) = q at *
        have HQ := Lib.hid hq
        clear hq
        go_wp2_with (first
          | (refine wpList_val (by rfl) _ (ex_ldPq (.tmp 6) rfl w4.heap.size q.1 q.2.1 q.2.2 rfl HB5.out.2.2.2.2) ?_)
          | ((with_reducible refine st_pq rfl _ _ rfl (w.heap.size + 2) (k * 3) q rfl rfl (HB5.out.2.2.1.p8There k hlt) ?_); intro w6 hw6))
        go_roundw
        case rel =>
          have hbb : Below (w.heap.size + 2) (w4.alloc (.cells (pcs q.1 q.2.1 q.2.2) 25)) w6 := by rw [hw6.out]; exact Below.setCells _ (Nat.le_refl _) _ _ (Below.refl _ _)
          exact ⟨k + 1, hlt, by go_num, HS.out, HB5.out.1.below hbb (by omega), HB5.out.2.1.below hbb (by omega), by
            show Blk w6 (w.heap.size + 2) _ ((setsK s k).set k (rdQ (part8 s k))).cs.toArray
            rw [HQ.out, hw6.out]
            exact HB5.out.2.2.1.p8Set k hlt q, HB5.out.2.2.2.1.trans (hbb.mono (by omega))⟩
        case measure => simp [intOf]; omega
      | false =>
        have HE := Lib.hid (hno hx)
        rw [(rd_no hx).2.2.2]
        clear hst hno hx
        generalize rdQ (part8 s k) = q at *
        go_wp2_with (first
          | (refine wpList_valD 23 rfl _ (ex_buildP8 rfl) (by rfl) ?_)
          | ((with_reducible refine st_p8 rfl _ _ rfl (w.heap.size + 1) 0 zp8 rfl rfl HB5.out.2.1.p8Has ?_); intro w6 hw6))
        have hb6 : Blk w6 (w.heap.size + 1) 84 zp8.cs.toArray := by rw [hw6.out]; exact HB5.out.2.1.p8All zp8
        have hbb : Below w.heap.size w w6 := by rw [hw6.out]; exact Below.setCells _ (by omega) _ _ HB5.out.2.2.2.1
        refine bodyPost_ret (results_row_tmp (u := 3) rfl _ _ _ _ _ _ _ rfl hb6 Try.underlying84 rfl (sizeP8'' _)) rfl ⟨?_, hbb⟩
        rw [show nrP s = zp8 by unfold nrP; rw [if_neg (by rw [HE.out]; simp)], show nrC s = 51 by unfold nrC; rw [if_neg (by rw [HE.out]; simp)]]
        rfl
    · obtain rfl : k = 8 := by omega
      have hok : okP s = true := hall
      rw [setsK_all hok] at hbs
      have HC : Hid (nrC s = 0) := if_pos hok
      have hsz := hbs.lt
      go_wp2_with (first
        | (with_reducible refine ld_p8 rfl _ rfl (w.heap.size + 2) 0 (nrP s) rfl hbs.p8Is ?_)
        | ((with_reducible refine st_p8 rfl _ _ rfl (w.heap.size + 1) 0 (nrP s) rfl rfl hbz.p8Has ?_); intro w6 hw6))
      have hb6 : Blk w6 (w.heap.size + 1) 84 (nrP s).cs.toArray := by rw [hw6.out]; exact hbz.p8All _
      have hbb : Below w.heap.size w w6 := by rw [hw6.out]; exact Below.setCells _ (by omega) _ _ hb
      refine bodyPost_ret (results_row_tmp (u := 3) rfl _ _ _ _ _ _ _ rfl hb6 Try.underlying84 rfl (sizeP8'' _)) rfl ⟨?_, hbb⟩
      rw [HC.out]
      rfl
end
section
open Go.RowKit

theorem spl_end {P l : List UInt8} {k m j : Nat} (hk : P.length = k) (hj : m = l.length + j) : spl (P ++ List.replicate m 0) k l = (P ++ l) ++ List.replicate j 0 := by
  subst hk hj
  unfold spl
  rw [List.take_left' rfl, ← List.drop_drop, List.drop_left' rfl, List.drop_replicate, Nat.add_sub_cancel_left, List.append_assoc]
def fillK (p : P8) (k : Nat) : List UInt8 := (p.l.take k).flatMap bsQ ++ List.replicate (128 - 16 * k) 0
theorem fillK_zero (p : P8) : bys (fillK p 0) = zsec.cs := rfl
theorem fill_pre {p : P8} {k : Nat} (hk : k ≤ 8) (h : (p.l.take k).all rightQ = true) : ((p.l.take k).flatMap bsQ).length = 16 * k := by
  rw [flat_bs h, List.length_take, p.h]
  omega
theorem fill_len {p : P8} {k : Nat} (hk : k ≤ 8) (h : (p.l.take k).all rightQ = true) : (fillK p k).length = 128 := by
  unfold fillK
  rw [List.length_append, fill_pre hk h, List.length_replicate]
  omega
theorem fill_step {p : P8} {k : Nat} (hk : k < 8) (h : (p.l.take k).all rightQ = true) (hr : rightQ (p.at_ k) = true) : spl (fillK p k) (16 * k) (bsQ (p.at_ k)) = fillK p (k + 1) := by
  have hkl : k < p.l.length := by rw [p.h]; exact hk
  unfold fillK
  rw [spl_end (j := 128 - 16 * (k + 1)) (fill_pre (by omega) h) (by rw [bsQ_len hr]; omega), take8 p.l k hkl, List.flatMap_append, at_eq p k hk]
  simp
theorem fill_all {p : P8} (h : all8 p = true) : bys (fillK p 8) = (nbS p).cs := by
  have e : (nbS p).l = fillK p 8 := by
    rw [nbS_yes h]
    unfold fillK
    rw [List.take_of_length_le (by rw [p.h]; omega)]
    simp
  show _ = bys (nbS p).l
  rw [e]
theorem run_cut8l (g k : Nat) (hk : k < 8) (w : World) :
    (Instr.sliceAt 46 (.pointer (some ⟨g, 0, none⟩)) (some (.int .i64 ((k : Int) * 16))) none none).run Try.prog w = .ok (.slice (some ⟨g, 16 * k, none⟩) (128 - 16 * k) (128 - 16 * k)) w := by
  rw [show (k : Int) * 16 = 16 * (k : Int) by omega, run_sliceAt_array_l w _ ⟨g, 0, none⟩ (by simp [Program.arrayLen, Program.elem, Try.underlying46]) .i64 (16 * (k : Int)) (by omega) (by rw [arrLenSec]; omega), run_sizeSecE]
  have e1 : (16 * (k : Int)).toNat = 16 * k := by omega
  simp only [Result.andThen_ok, slicedAt, arrLenSec, e1, Nat.mul_one]
  rw [if_neg (by omega), addr_flat, Nat.zero_add]
set_option maxHeartbeats 2000000 in
theorem nnbytes_any (p : P8) (hp : p.ok) (w : World) : Calls Try.prog 39 #[.agg p.cs.toArray] w fun e w' => e = .returned (.tuple #[.agg (nbS p).cs.toArray, .int .i64 (nbC p)]) ∧ Below w.heap.size w w' := by
  have hz : ∀ w, Sem.run Try.prog (zeroValue 46) w = .ok (.agg zsec.cs.toArray) w := zeroSec
  go_enter Try.func39, Try.ntmps39
  have hbl : Blk (((w.alloc (.cells p.cs.toArray 84)).alloc (.cells zsec.cs.toArray 46)).alloc (.cells zsec.cs.toArray 46)) w.heap.size 84 p.cs.toArray := (Blk.new w _ _).below (B := w.heap.size + 1) (((Below.refl _ _).alloc (by simp) _).alloc (by simp) _) (by omega)
  have hbz : Blk (((w.alloc (.cells p.cs.toArray 84)).alloc (.cells zsec.cs.toArray 46)).alloc (.cells zsec.cs.toArray 46)) (w.heap.size + 1) 46 zsec.cs.toArray := by
    have h := Blk.new (w.alloc (.cells p.cs.toArray 84)) 46 zsec.cs.toArray
    rw [show (w.alloc (.cells p.cs.toArray 84)).heap.size = w.heap.size + 1 by simp] at h
    exact h.below (B := w.heap.size + 2) ((Below.refl _ _).alloc (by simp) _) (by omega)
  have hbs : Blk (((w.alloc (.cells p.cs.toArray 84)).alloc (.cells zsec.cs.toArray 46)).alloc (.cells zsec.cs.toArray 46)) (w.heap.size + 2) 46 zsec.cs.toArray := by
    have h := Blk.new ((w.alloc (.cells p.cs.toArray 84)).alloc (.cells zsec.cs.toArray 46)) 46 zsec.cs.toArray
    rw [show ((w.alloc (.cells p.cs.toArray 84)).alloc (.cells zsec.cs.toArray 46)).heap.size = w.heap.size + 2 by simp] at h
    exact h
  have hb0 : Below w.heap.size w (((w.alloc (.cells p.cs.toArray 84)).alloc (.cells zsec.cs.toArray 46)).alloc (.cells zsec.cs.toArray 46)) := (((Below.refl _ _).alloc (Nat.le_refl _) _).alloc (by simp) _).alloc (by simp; omega) _
  have H0 := Lib.hid (And.intro hbl (And.intro hbz (And.intro hbs hb0)))
  clear hbl hbz hbs hb0
  go_wp2_with ((with_reducible refine ld_p8 rfl _ rfl w.heap.size 0 p rfl H0.out.1.p8Is ?_))
  go_loopw [10] (fun i wr => ∃ k : Nat, k ≤ 8 ∧ i = .int .i64 k ∧ (p.l.take k).all rightQ = true ∧ Blk wr (w.heap.size + 1) 46 zsec.cs.toArray ∧ Blk wr (w.heap.size + 2) 46 (bys (fillK p k)).toArray ∧ Below w.heap.size w wr) (fun i _ => 8 - (intOf i).toNat)
  case atStart => exact ⟨0, by omega, rfl, rfl, H0.out.2.1, by rw [fillK_zero]; exact H0.out.2.2.1, H0.out.2.2.2⟩
  case round =>
    clear H0
    obtain ⟨k, hk, rfl, hall, hbz, hbs, hb⟩ := hrel
    by_cases hlt : k < 8
    · have hkl : k < p.l.length := by rw [p.h]; exact hlt
      have hst : (p.l.take (k + 1)).all rightQ = rightQ (p.at_ k) := by
        rw [take8 p.l k hkl, List.all_append, hall, at_eq p k hlt]
        simp
      have hem : rightQ (p.at_ k) = false → all8 p = false := fun h => by
        rw [Bool.eq_false_iff]
        intro e
        rw [all8_at e k hlt] at h
        cases h
      have hfs := fun h => fill_step (p := p) hlt hall h
      have hfl := fill_len (p := p) (k := k) (by omega) hall
      have HI := Lib.hid (fun (o : Oper) (a : Act) (w : World) (ho : o.op = .index 84 (.tmp 9) (.tmp 10)) => ex_ixP8 (o := o) (a := a) (w := w) (.tmp 9) (.tmp 10) ho p k hlt)
      have HB := Lib.hid (bytes_any (hp _ (p.at_mem k hlt)))
      generalize p.at_ k = q at *
      obtain ⟨q1, q2, q3⟩ := q
      simp only at HI HB
      have hb5 : Below wr.heap.size wr (wr.alloc (.cells (pcs q1 q2 q3) 25)) := (Below.refl _ _).alloc (Nat.le_refl _) _
      have H1 := Lib.hid (And.intro (hbz.below hb5 hbz.lt) (And.intro (hbs.below hb5 hbs.lt) (And.intro (hb.trans (hb5.mono hb.size)) (Blk.new wr 25 (pcs q1 q2 q3)))))
      have hzp := zeroPtr8
      have hk8 : (k : Int) < 8 := by omega
      have hk0 : (0 : Int) ≤ (k : Int) := by omega
      have hsz := hbs.lt
      clear hbz hbs hb hall hb5
      go_wp2_with (first
        | (refine wpList_val (by rfl) _ (HI.out _ _ _ rfl rfl rfl) ?_)
        | (refine wpList_val (by rfl) _ (ex_ldPq (.tmp 6) rfl wr.heap.size q1 q2 q3 rfl H1.out.2.2.2) ?_))
      refine Calls.mono (HB.out _) ?_
      rintro e w4 ⟨A, c, rfl, hrd, hc, hb4⟩
      have H4 := Lib.hid (And.intro (H1.out.1.below hb4 H1.out.1.lt) (And.intro (H1.out.2.1.below hb4 H1.out.2.1.lt) (And.intro (H1.out.2.2.1.trans (hb4.mono H1.out.2.2.1.size)) hrd)))
      clear H1 HB HI hb4 hrd
      cases hx : rightQ (q1, q2, q3) with
      | true =>
        rw [hx] at hst
        have HS := Lib.hid hst
        have h16 : (bsF q1 q2 q3).length = 16 := bsQ_len (q := (q1, q2, q3)) hx
        have HF := Lib.hid (And.intro (hfs hx) hfl)
        rw [show bsC q1 q2 q3 = 0 from if_pos hx, h16]
        clear hst hem hx hfs hfl
        have hcut := run_cut8l (w.heap.size + 1 + 1) k hlt w4
        go_wp2_with (refine cp_bys rfl (.tmp 25) (.tmp 26) rfl (w.heap.size + 2) (16 * k) (128 - 16 * k) (128 - 16 * k) 16 c w4.heap.size A 46 (fillK p k) (bsF q1 q2 q3) (fillK p (k + 1)) HF.out.1 rfl rfl H4.out.2.1 H4.out.2.2.2 h16 (by omega) (by omega) (by rw [HF.out.2]; omega) ?_; intro w6 hw6)
        go_roundw
        case rel => exact ⟨k + 1, hlt, by go_num, HS.out, H4.out.1.chg hw6.out.2 (by omega), hw6.out.1, H4.out.2.2.1.trans (hw6.out.2.below (fun j hj => by omega) H4.out.2.2.1.size)⟩
        case measure => simp [intOf]; omega
      | false =>
        have HE := Lib.hid (hem hx)
        rw [show bsC q1 q2 q3 = 51 from if_neg (by rw [show qrightF q1 q2 q3 = false from hx]; simp), show (bsF q1 q2 q3) = [] from if_neg (by rw [show qrightF q1 q2 q3 = false from hx]; simp)]
        clear hst hem hx hfs hfl
        go_wp2_with (first
          | (refine wpList_val (by rfl) _ (ex_build0 rfl) ?_)
          | ((with_reducible refine st_sec rfl _ _ rfl (w.heap.size + 1) 0 zsec rfl rfl H4.out.1.secHas ?_); intro w6 hw6))
        have hb6 : Blk w6 (w.heap.size + 1) 46 zsec.cs.toArray := by rw [hw6.out]; exact H4.out.1.secAll zsec
        have hbb : Below w.heap.size w w6 := by rw [hw6.out]; exact Below.setCells _ (by omega) _ _ H4.out.2.2.1
        refine bodyPost_ret (results_row_tmp (u := 3) rfl _ _ _ _ _ _ _ rfl hb6 Try.underlying46 rfl (sizeSec'' _)) rfl ⟨?_, hbb⟩
        rw [nbS_no HE.out, show nbC p = 51 from if_neg (by rw [HE.out]; simp)]
        rfl
    · obtain rfl : k = 8 := by omega
      have ha : all8 p = true := by
        rw [List.take_of_length_le (by rw [p.h]; omega)] at hall
        exact hall
      rw [fill_all ha] at hbs
      have HC : Hid (nbC p = 0) := if_pos ha
      have hsz := hbs.lt
      go_wp2_with (first
        | (with_reducible refine ld_sec rfl _ rfl (w.heap.size + 2) 0 (nbS p) rfl hbs.secIs ?_)
        | ((with_reducible refine st_sec rfl _ _ rfl (w.heap.size + 1) 0 (nbS p) rfl rfl hbz.secHas ?_); intro w6 hw6))
      have hb6 : Blk w6 (w.heap.size + 1) 46 (nbS p).cs.toArray := by rw [hw6.out]; exact hbz.secAll _
      have hbb : Below w.heap.size w w6 := by rw [hw6.out]; exact Below.setCells _ (by omega) _ _ hb
      refine bodyPost_ret (results_row_tmp (u := 3) rfl _ _ _ _ _ _ _ rfl hb6 Try.underlying46 rfl (sizeSec'' _)) rfl ⟨?_, hbb⟩
      rw [HC.out]
      rfl
end
end Go.Proofs.Ytdcegkeaopjbnaa
