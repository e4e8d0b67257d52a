/- Eight pointers: as a value, in memory; nodes as plain mathematics. -/
import Derived.Test.YtgbghmgipnphkaaO5
import Derived.Test.YtgbghmgipnphkaaO6
import Derived.Test.YtgbghmgipnphkaaU6
import Derived.Test.YtgbghmgipnphkaaB
set_option maxRecDepth 10000
namespace Go.Proofs.Ytgbghmgipnphkaa
open Go.RowKit

abbrev ptq (q : PtrV) : Value := ptv q.1 q.2.1 q.2.2
def PtrOk (q : PtrV) : Prop := IsPtr q.1 q.2.1 q.2.2
def rightQ (q : PtrV) : Bool := rightF q.1 q.2.1 q.2.2
def bsQ (q : PtrV) : List UInt8 := bsF q.1 q.2.1 q.2.2
structure P8 where
  l : List PtrV
  h : l.length = 8
theorem P8.eq : ∀ {p q : P8}, p.l = q.l → p = q
  | ⟨_, _⟩, ⟨_, _⟩, rfl => rfl
def P8.cs (p : P8) : List Value := pqs p.l
theorem P8.cs_len (p : P8) : p.cs.length = 24 := by rw [P8.cs, pqs_len, p.h]
theorem pqs_one {l : List PtrV} : ∀ u ∈ pqs l, u.oneCell' = true := by
  intro u hu
  simp only [pqs, List.mem_flatMap, List.mem_cons, List.not_mem_nil, or_false] at hu
  obtain ⟨q, _, rfl | rfl | rfl⟩ := hu <;> rfl
theorem P8.one (p : P8) : ∀ u ∈ p.cs, u.oneCell' = true := pqs_one
def P8.at_ (p : P8) (j : Nat) : PtrV := p.l.getD j hole0
def P8.ok (p : P8) : Prop := ∀ q ∈ p.l, PtrOk q
theorem P8.at_mem (p : P8) (j : Nat) (hj : j < 8) : p.at_ j ∈ p.l := by
  have h : j < p.l.length := by rw [p.h]; exact hj
  simp only [P8.at_, List.getD, List.getElem?_eq_getElem h, Option.getD_some]
  exact List.getElem_mem h
theorem P8.cell (p : P8) (j : Nat) (hj : j < 8) : p.cs[j * 3]? = some (.int .i64 (p.at_ j).1) ∧ p.cs[j * 3 + 1]? = some (.int .u64 (p.at_ j).2.1) ∧ p.cs[j * 3 + 2]? = some (.int .u32 (p.at_ j).2.2) := by
  have h : j < p.l.length := by rw [p.h]; exact hj
  have h1 := pqs_at p.l j h
  have e : p.at_ j = p.l[j] := by simp [P8.at_, List.getD, h]
  rw [e]
  exact h1
def zp8 : P8 := ⟨List.replicate 8 hole0, List.length_replicate ..⟩
def P8.set (p : P8) (j : Nat) (q : PtrV) : P8 := ⟨p.l.set j q, by rw [List.length_set, p.h]⟩
theorem P8.set_at (p : P8) (j i : Nat) (q : PtrV) (hi : i < 8) : (p.set j q).at_ i = if j = i then q else p.at_ i := by
  have h : i < p.l.length := by rw [p.h]; exact hi
  unfold P8.at_ P8.set
  by_cases e : j = i
  · subst e
    rw [if_pos rfl]
    simp [List.getD, h]
  · rw [if_neg e]
    simp [List.getD, List.getElem?_set_ne e]
theorem P8.ext {p q : P8} (h : ∀ j, j < 8 → p.at_ j = q.at_ j) : p = q := P8.eq (List.ext_getElem (by rw [p.h, q.h]) fun j h1 h2 => by
  have := h j (by rw [p.h] at h1; exact h1)
  simpa [P8.at_, List.getD, h1, h2] using this)
theorem infoP8 : (Try.prog.info? 31).map (fun i => (i.zero, i.size)) = some (some (.agg zp8.cs.toArray), 24) := by kernel_rfl
theorem sizeP8 : (Try.prog.info? 31).map (·.size) = some 24 := by kernel_rfl
theorem sizeP8' (p : P8) : (Try.prog.info? 31).map (·.size) = some p.cs.length := by rw [P8.cs_len]; exact sizeP8
theorem sizeP8'' (p : P8) : (Try.prog.info? 31).map (·.size) = some p.cs.toArray.size := by rw [List.size_toArray, P8.cs_len]; exact sizeP8
theorem zeroP8 (w : World) : Sem.run Try.prog (zeroValue 31) w = .ok (.agg zp8.cs.toArray) w := by
  obtain ⟨i, hi⟩ : ∃ i, Try.prog.info? 31 = some i := info_of_underlying Try.underlying31
  have h := infoP8
  rw [hi] at h
  simp only [Option.map_some, Option.some.injEq, Prod.mk.injEq] at h
  simp [zeroValue, typeInfo, hi, h.1]
theorem buildP8 (w : World) : (Instr.build 31 #[]).run Try.prog w = .ok (.agg zp8.cs.toArray) w := by
  refine run_build w _ _ _ ?_
  kernel_rfl
theorem ex_buildP8 {o : Oper} {a : Act} {w : World} (ho : o.op = .build 31 #[]) : (execOp a.eval o).run Try.prog w = .ok (.value (.agg zp8.cs.toArray)) w := by
  have hb := buildP8 w
  unfold execOp
  simp only [ho, List.map_toArray, List.map_nil, Sem.run_bind, hb, Sem.run_pure, Result.andThen_ok]
/-- Eight pointers are loaded, stored. -/
theorem ld_p8 {ops : Array Oper} {rest : List Oper} {o : Oper} {a : Act} {w : World} {Q : Exit → Act → World → Prop} (hgd : o.guard = none) (x : Operand) (ho : o.op = .load 31 x)
    (b k : Nat) (p : P8) (hx : a.eval x = .pointer (some ⟨b, k, none⟩)) (hr : w.rangeAt b k p.cs)
    (h : wpList Try.prog ops Q rest (a.put o.dst (.agg p.cs.toArray)) w) : wpList Try.prog ops Q (o :: rest) a w :=
  wpList_load_mid hgd _ x ho b k hx p.cs _ hr Try.underlying31 rfl (sizeP8' p) h
theorem st_p8 {ops : Array Oper} {rest : List Oper} {o : Oper} {a : Act} {w : World} {Q : Exit → Act → World → Prop} (hgd : o.guard = none) (x y : Operand) (ho : o.op = .store 31 x y)
    (b k : Nat) (p : P8) (hx : a.eval x = .pointer (some ⟨b, k, none⟩)) (hy : a.eval y = .agg p.cs.toArray) (ht : w.there b k 24)
    (h : ∀ w', Hid (w' = w.setCells b k p.cs) → wpList Try.prog ops Q rest (a.put o.dst undef) w') : wpList Try.prog ops Q (o :: rest) a w :=
  wpList_store_mid hgd _ x y ho b k p.cs.toArray hx hy (by rw [List.size_toArray, P8.cs_len]; exact ht) (sizeP8'' p) (all_one p.one) (h _ rfl)
/-- One of eight pointers is loaded. -/
theorem ld_pq {ops : Array Oper} {rest : List Oper} {o : Oper} {a : Act} {w : World} {Q : Exit → Act → World → Prop} (hgd : o.guard = none) (x : Operand) (ho : o.op = .load 30 x)
    (b k : Nat) (q : PtrV) (hx : a.eval x = .pointer (some ⟨b, k, none⟩)) (hr : w.rangeAt b k [.int .i64 q.1, .int .u64 q.2.1, .int .u32 q.2.2])
    (h : wpList Try.prog ops Q rest (a.put o.dst (ptq q)) w) : wpList Try.prog ops Q (o :: rest) a w :=
  wpList_load_mid hgd _ x ho b k hx [.int .i64 q.1, .int .u64 q.2.1, .int .u32 q.2.2] _ hr Try.underlying30 rfl ptr_size h
section
variable {w : World} {g : Nat} {t : TypeId} {p : P8}
theorem Blk.p8All (h : Blk w g t p.cs.toArray) (u : P8) : Blk (w.setCells g 0 u.cs) g t u.cs.toArray := h.setAll _ (by rw [List.size_toArray, P8.cs_len, P8.cs_len])
theorem Blk.p8Has (h : Blk w g t p.cs.toArray) : w.there g 0 24 := h.there 0 24 (by rw [List.size_toArray, P8.cs_len]; omega)
theorem Blk.p8Is (h : Blk w g t p.cs.toArray) : w.rangeAt g 0 p.cs := h.range 0 p.cs fun j v hv => by rw [Nat.zero_add, List.getElem?_toArray]; exact hv
theorem Blk.p8At (h : Blk w g t p.cs.toArray) (j : Nat) (hj : j < 8) : w.rangeAt g (j * 3) [.int .i64 (p.at_ j).1, .int .u64 (p.at_ j).2.1, .int .u32 (p.at_ j).2.2] := by
  obtain ⟨h1, h2, h3⟩ := p.cell j hj
  refine h.range (j * 3) _ fun i v hv => ?_
  rw [List.getElem?_toArray]
  match i with
  | 0 => exact h1.trans hv
  | 1 => exact h2.trans hv
  | 2 => exact h3.trans hv
  | i + 3 => simp at hv
theorem Blk.p8Set (h : Blk w g t p.cs.toArray) (j : Nat) (hj : j < 8) (q : PtrV) : Blk (w.setCells g (j * 3) [.int .i64 q.1, .int .u64 q.2.1, .int .u32 q.2.2]) g t (p.set j q).cs.toArray := by
  refine h.setTo _ _ (by rw [List.size_toArray, P8.cs_len]; simp; omega) fun k => ?_
  rw [List.getElem?_toArray, List.getElem?_toArray]
  simp only [List.length_cons, List.length_nil]
  by_cases hk : k < 24
  · have h1 : k = k / 3 * 3 + k % 3 := by omega
    have h2 : k / 3 < 8 := by omega
    have h3 : k % 3 < 3 := by omega
    generalize k / 3 = m at *
    generalize k % 3 = r at *
    subst h1
    obtain ⟨c0, c1, c2⟩ := (p.set j q).cell m h2
    obtain ⟨d0, d1, d2⟩ := p.cell m h2
    rw [P8.set_at _ _ _ _ h2] at c0 c1 c2
    by_cases e : j = m
    · subst e
      rw [if_pos rfl] at c0 c1 c2
      rw [if_pos (by omega), show j * 3 + r - j * 3 = r by omega]
      match r, h3 with
      | 0, _ => exact c0
      | 1, _ => exact c1
      | 2, _ => exact c2
    · rw [if_neg e] at c0 c1 c2
      rw [if_neg (by omega)]
      match r, h3 with
      | 0, _ => exact c0.trans d0.symm
      | 1, _ => exact c1.trans d1.symm
      | 2, _ => exact c2.trans d2.symm
  · rw [if_neg (by omega), List.getElem?_eq_none (by rw [P8.cs_len]; omega), List.getElem?_eq_none (by rw [P8.cs_len]; omega)]
theorem Blk.p8There (h : Blk w g t p.cs.toArray) (j : Nat) (hj : j < 8) : w.there g (j * 3) 3 := h.there _ _ (by rw [List.size_toArray, P8.cs_len]; omega)
end
/-! ### What is told of eight pointers, of a sector -/
def all8 (p : P8) : Bool := p.l.all rightQ
theorem bsQ_len {q : PtrV} (h : rightQ q = true) : (bsQ q).length = 16 := by
  unfold bsQ bsF
  rw [if_pos (show rightF q.1 q.2.1 q.2.2 = true from h), ptrBytes_len]
theorem flat_bs : ∀ {l : List PtrV}, l.all rightQ = true → (l.flatMap bsQ).length = l.length * 16
  | [], _ => rfl
  | q :: r, h => by
    simp only [List.all_cons, Bool.and_eq_true] at h
    have := flat_bs h.2
    rw [List.flatMap_cons, List.length_append, bsQ_len h.1, this, List.length_cons]
    omega
def nbS (p : P8) : Sec := if h : all8 p = true then ⟨p.l.flatMap bsQ, by rw [flat_bs h, p.h]⟩ else zsec
def nbC (p : P8) : Int := if all8 p = true then 0 else 51
theorem nbS_yes {p : P8} (h : all8 p = true) : (nbS p).l = p.l.flatMap bsQ := by unfold nbS; rw [dif_pos h]
theorem nbS_no {p : P8} (h : all8 p = false) : nbS p = zsec := by unfold nbS; rw [dif_neg (by simp [h])]
def part8 (s : Sec) (j : Nat) : List UInt8 := (s.l.drop (16 * j)).take 16
theorem part8_len (s : Sec) (j : Nat) (hj : j < 8) : (part8 s j).length = 16 := by unfold part8; rw [List.length_take, List.length_drop, s.h]; omega
def rdQ (l : List UInt8) : PtrV := (rdA l, rdB l, rdS l)
def okP (s : Sec) : Bool := (List.range 8).all fun j => okF (part8 s j)
def nrP (s : Sec) : P8 := if okP s = true then ⟨(List.range 8).map fun j => rdQ (part8 s j), by rw [List.length_map, List.length_range]⟩ else zp8
def nrC (s : Sec) : Int := if okP s = true then 0 else 51
def emptyF (p : P8) : Bool := p.l.all fun q => holeF q.1 q.2.1 q.2.2
def maxB : List PtrV → Int
  | [] => 0
  | q :: r => max q.2.1 (maxB r)
def newestF (p : P8) : Int := maxB p.l
end Go.Proofs.Ytgbghmgipnphkaa
