/- The texts U3 U6 O1 O2 O3 O5 O6 SX. -/
import Derived.Test.YtdcegkeaopjbnaaVA
import Derived.Test.YtdcegkeaopjbnaaGA
import Derived.Lib.LazyBuf
import Derived.Laws.IdiomCopy
import Derived.Test.YtdcegkeaopjbnaaNA
import Derived.Test.YtdcegkeaopjbnaaQA
import Derived.Lib.SmallJoins
import Derived.Deep.Cut
set_option maxRecDepth 10000
namespace Go.Proofs.Ytdcegkeaopjbnaa

section
open Go.RowKit

/-- A list written over from a place on. -/
def spl (L : List UInt8) (k : Nat) (l : List UInt8) : List UInt8 := L.take k ++ (l ++ L.drop (k + l.length))
theorem spl_len {L l : List UInt8} {k : Nat} (h : k + l.length ≤ L.length) : (spl L k l).length = L.length := by
  simp only [spl, List.length_append, List.length_take, List.length_drop]
  omega
theorem spl_at {L l : List UInt8} {k : Nat} (h : k + l.length ≤ L.length) (i : Nat) : (spl L k l)[i]? = if k ≤ i ∧ i < k + l.length then l[i - k]? else L[i]? := by
  unfold spl
  by_cases h1 : i < k
  · rw [if_neg (by omega), List.getElem?_append_left (by rw [List.length_take]; omega), List.getElem?_take, if_pos h1]
  · rw [List.getElem?_append_right (by rw [List.length_take]; omega), List.length_take, Nat.min_eq_left (by omega)]
    by_cases h2 : i < k + l.length
    · rw [if_pos (by omega), List.getElem?_append_left (by omega)]
    · rw [if_neg (by omega), List.getElem?_append_right (by omega), List.getElem?_drop]
      congr 1
      omega
theorem bys_get (l : List UInt8) (i : Nat) : (bys l)[i]? = l[i]?.map fun b : UInt8 => .int .u8 (b.toNat : Int) := by simp [bys]
theorem Blk.spl {w : World} {g : Nat} {t : TypeId} {L : List UInt8} (h : Blk w g t (bys L).toArray) (k : Nat) (l : List UInt8) (hk : k + l.length ≤ L.length) : Blk (w.setCells g k (bys l)) g t (bys (spl L k l)).toArray :=
  h.setTo _ _ (by rw [bys_len, List.size_toArray, bys_len]; exact hk) fun i => by
    rw [List.getElem?_toArray, List.getElem?_toArray, bys_len, bys_get, bys_get, bys_get, spl_at hk]
    split <;> rfl
theorem infoB1 : (Try.prog.info? 5).map (·.size) = some 1 := by kernel_rfl
/-- copy of bytes into a block of bytes. -/
theorem cp_bys {ops : Array Oper} {rest : List Oper} {o : Oper} {a : Act} {w : World} {Q : Exit → Act → World → Prop} (hgd : o.guard = none) (x y : Operand)
    (ho : o.op = .call { callee := .builtin .copy, args := #[x, y], argTypes := #[34, 34] }) (g k m c n c' B : Nat) (A : Option Addr) (t : TypeId) (L l L' : List UInt8) (hL : spl L k l = L')
    (hx : a.eval x = .slice (some ⟨g, k, none⟩) m c) (hy : a.eval y = .slice A n c') (hB : Blk w g t (bys L).toArray) (hr : Rd w B A (bys l)) (hn : l.length = n) (h0 : 0 < n) (hnm : n ≤ m) (hk : k + n ≤ L.length)
    (h : ∀ w', Hid (Blk w' g t (bys L').toArray ∧ Chg w w' (· = g)) → wpList Try.prog ops Q rest (a.put o.dst (goInt n)) w') : wpList Try.prog ops Q (o :: rest) a w := by
  subst hn hL
  obtain ⟨b, off, rfl, _, hc⟩ := hr (by rw [bys_len]; exact h0)
  have ht := hB.there k l.length (by rw [List.size_toArray, bys_len]; exact hk)
  have hrun := run_copy_cells (P := Try.prog) w 34 34 o.type 5 g k m c ⟨b, off, none⟩ l.length c' (bys l) Try.underlying34 infoB1 (by rw [bys_len]; exact (Nat.min_eq_left hnm).symm)
    (fun j v hv => by rw [Addr.add_mid]; exact hc j v hv) (fun j hj => (ht j (by rwa [bys_len] at hj)).1) (fun j hj => (ht j (by rwa [bys_len] at hj)).2) bys_one
  rw [bys_len] at hrun
  refine wpList_plain hgd fun _ hK => ?_
  unfold Oper.wp execOp
  simp only [ho, resolve, invoke, builtin, Sem.run_bind, Sem.run_pure, Result.andThen_ok, List.map_toArray, List.map_cons, List.map_nil, hx, hy, hrun]
  exact hK _ _ (h _ ⟨hB.spl k l hk, Chg.setCells (O := (· = g)) (.inl rfl) _ _ (Chg.refl _ _)⟩)
/-! ### The widths -/
end
section
open Go.RowKit

theorem run_neSec (s t : Sec) (w : World) : (binOp .neq 46 (.agg s.cs.toArray) (.agg t.cs.toArray)).run Try.prog w = .ok (.bool (!s.same t)) w := by
  have h := run_eqSec s t w
  unfold Op.equal Op.maxDepth at h
  rw [run_neq_struct, h]
  rfl
theorem ex_neS {o : Oper} {a : Act} {w : World} (x y : Operand) (ho : o.op = .binOp .neq 46 x y 46) (s t : Sec) (hx : a.eval x = .agg s.cs.toArray) (hy : a.eval y = .agg t.cs.toArray) :
    (execOp a.eval o).run Try.prog w = .ok (.value (.bool (!s.same t))) w := by
  unfold execOp
  simp [ho, hx, hy, eqGuard, run_neSec]
section
variable (s : Sec) (w : World)
end
end
section
open Go.RowKit

/-- Bytes as a sector, zeros behind. -/
def blockS (l : List UInt8) : Sec := ⟨(l ++ List.replicate 128 0).take 128, by rw [List.length_take, List.length_append, List.length_replicate]; omega⟩
def sumS (x : Sec) : Nat := moreF 0 x.l
theorem blockS_at (l : List UInt8) (j : Nat) (hj : j < 128) : (blockS l).l[j]'(by rw [(blockS l).h]; exact hj) = l.getD j 0 := by
  simp only [blockS, List.getElem_take, List.getD]
  by_cases h : j < l.length
  · rw [List.getElem_append_left h, List.getElem?_eq_getElem h]
    rfl
  · rw [List.getElem_append_right (by omega), List.getElem?_eq_none (by omega), List.getElem_replicate]
    rfl
abbrev PtrV := Int × Int × Int
def hole0 : PtrV := (0, 0, 0)
/-- What can be told of a pile whose device keeps its power: what is read of it, the map, the stamp, the base; at most so many writes aren't stable. -/
structure Pw where
  nw : List Sec
  m : Mp
  st : Nat
  ba : Nat
  N : Nat
def newPw (x : Int) : Pw := ⟨List.replicate (min (max x 0) 1024).toNat zsec, newMp x, 1, 0, 0⟩
def putC (P : Pw) (l : List UInt8) : Int := if 128 < l.length then 92 else match P.m.next with
  | none => 71
  | some _ => 0
def putQ (P : Pw) (l : List UInt8) : PtrV := if 128 < l.length then hole0 else match P.m.next with
  | none => hole0
  | some i => ((i : Int), (P.st : Int), (sumS (blockS l) : Int))
def putP (P : Pw) (l : List UInt8) : Pw := if 128 < l.length then P else match P.m.next with
  | none => P
  | some i => ⟨P.nw.set i (blockS l), P.m.put i 1, P.st, P.ba, P.N + 1⟩
def putAtC (P : Pw) (i : Int) (l : List UInt8) : Int := if 128 < l.length then 92 else if 0 ≤ i ∧ P.m.is 1 i.toNat = true then 0 else 72
def putAtQ (P : Pw) (i : Int) (l : List UInt8) : PtrV := if putAtC P i l = 0 then (i, (P.st : Int), (sumS (blockS l) : Int)) else hole0
def putAtP (P : Pw) (i : Int) (l : List UInt8) : Pw := if putAtC P i l = 0 then ⟨P.nw.set i.toNat (blockS l), P.m, P.st, P.ba, P.N + 1⟩ else P
def getS (P : Pw) (q : PtrV) : Sec × Int :=
  if q = hole0 then (zsec, 0)
  else if hasF P.nw.length q.1 = true then
    if (sumS (P.nw.getD q.1.toNat zsec) : Int) = q.2.2 then (P.nw.getD q.1.toNat zsec, 0) else (zsec, 91)
  else (zsec, 91)
def dropT (P : Pw) (q : PtrV) : Nat := if (P.ba : Int) < q.2.1 then 0 else 2
def dropC (P : Pw) (q : PtrV) : Int := if q = hole0 then 0 else turnC P.m q.1 1 (dropT P q)
def dropP (P : Pw) (q : PtrV) : Pw := if q = hole0 then P else ⟨P.nw, turnM P.m q.1 1 (dropT P q), P.st, P.ba, P.N⟩
def comP (P : Pw) : Pw := ⟨P.nw, P.m.commit, P.st + 1, P.st, P.N⟩
def rotW (P : Pw) (i : Int) (x : Sec) : Pw := if hasF P.nw.length i = true then ⟨P.nw.set i.toNat x, P.m, P.st, P.ba, P.N⟩ else P
theorem pput_no {P : Pw} {l : List UInt8} (h : 128 < l.length) : putC P l = 92 ∧ putQ P l = hole0 ∧ putP P l = P := by
  unfold putC putQ putP
  rw [if_pos h, if_pos h, if_pos h]
  exact ⟨rfl, rfl, rfl⟩
theorem put_full {P : Pw} {l : List UInt8} (h : ¬ 128 < l.length) (hm : P.m.next = none) : putC P l = 71 ∧ putQ P l = hole0 ∧ putP P l = P := by
  unfold putC putQ putP
  rw [if_neg h, if_neg h, if_neg h, hm]
  exact ⟨rfl, rfl, rfl⟩
theorem pput_yes {P : Pw} {l : List UInt8} {i : Nat} (h : ¬ 128 < l.length) (hm : P.m.next = some i) : putC P l = 0 ∧ putQ P l = ((i : Int), (P.st : Int), (sumS (blockS l) : Int)) ∧ putP P l = ⟨P.nw.set i (blockS l), P.m.put i 1, P.st, P.ba, P.N + 1⟩ := by
  unfold putC putQ putP
  rw [if_neg h, if_neg h, if_neg h, hm]
  exact ⟨rfl, rfl, rfl⟩
theorem putAt_no {P : Pw} {i : Int} {l : List UInt8} (h : putAtC P i l ≠ 0) : putAtQ P i l = hole0 ∧ putAtP P i l = P := by
  unfold putAtQ putAtP
  rw [if_neg h, if_neg h]
  exact ⟨rfl, rfl⟩
theorem putAt_yes {P : Pw} {i : Nat} {l : List UInt8} (h : ¬ 128 < l.length) (hm : P.m.is 1 i = true) : putAtC P i l = 0 ∧ putAtQ P i l = ((i : Int), (P.st : Int), (sumS (blockS l) : Int)) ∧ putAtP P i l = ⟨P.nw.set i (blockS l), P.m, P.st, P.ba, P.N + 1⟩ := by
  have e : putAtC P i l = 0 := by unfold putAtC; rw [if_neg h, if_pos ⟨by omega, by simpa using hm⟩]
  refine ⟨e, ?_, ?_⟩
  · unfold putAtQ; rw [if_pos e]
  · unfold putAtP; rw [if_pos e]; simp
theorem get_hole (P : Pw) : getS P hole0 = (zsec, 0) := if_pos rfl
theorem get_same {P : Pw} {i : Nat} {b : Int} {x : Sec} (hq : ((i : Int), b, (sumS x : Int)) ≠ hole0) (hi : i < P.nw.length) (hx : P.nw.getD i zsec = x) : getS P ((i : Int), b, (sumS x : Int)) = (x, 0) := by
  unfold getS
  rw [if_neg hq, if_pos (by unfold hasF; rw [decide_eq_true_iff]; omega)]
  simp only [Int.toNat_natCast, hx, if_true]
theorem get_other {P : Pw} {i : Nat} {b s : Int} {x : Sec} (hq : ((i : Int), b, s) ≠ hole0) (hi : i < P.nw.length) (hx : P.nw.getD i zsec = x) (hs : (sumS x : Int) ≠ s) : getS P ((i : Int), b, s) = (zsec, 91) := by
  unfold getS
  rw [if_neg hq, if_pos (by unfold hasF; rw [decide_eq_true_iff]; omega)]
  simp only [Int.toNat_natCast, hx]
  rw [if_neg hs]
theorem drop_hole (P : Pw) : dropC P hole0 = 0 ∧ dropP P hole0 = P := ⟨if_pos rfl, if_pos rfl⟩
theorem drop_yes {P : Pw} {i : Nat} {b s : Int} (hq : ((i : Int), b, s) ≠ hole0) (hi : P.m.is 1 i = true) :
    dropC P ((i : Int), b, s) = 0 ∧ dropP P ((i : Int), b, s) = ⟨P.nw, P.m.put i (if (P.ba : Int) < b then 0 else 2), P.st, P.ba, P.N⟩ := by
  unfold dropC dropP
  rw [if_neg hq, if_neg hq]
  have h : P.m.turn ((i : Int)) 1 (dropT P ((i : Int), b, s)) = some (P.m.put i (dropT P ((i : Int), b, s))) := by
    unfold Mp.turn
    rw [if_pos ⟨by omega, by simpa using hi⟩, Int.toNat_natCast]
  unfold turnC turnM
  simp only [h]
  exact ⟨trivial, rfl⟩
theorem drop_no {P : Pw} {i : Nat} {b s : Int} (hq : ((i : Int), b, s) ≠ hole0) (hi : P.m.is 1 i = false) : dropC P ((i : Int), b, s) = 72 ∧ dropP P ((i : Int), b, s) = P := by
  unfold dropC dropP
  rw [if_neg hq, if_neg hq]
  have h : P.m.turn ((i : Int)) 1 (dropT P ((i : Int), b, s)) = none := by
    unfold Mp.turn
    rw [if_neg]
    rintro ⟨_, h⟩
    rw [Int.toNat_natCast, hi] at h
    cases h
  unfold turnC turnM
  simp only [h]
  exact ⟨trivial, trivial⟩
theorem hole_ne {a b s : Int} (h : b ≠ 0) : (a, b, s) ≠ hole0 := fun e => h (congrArg (fun q : PtrV => q.2.1) e)
end
section
open Go.RowKit

abbrev ptq (q : PtrV) : Value := ptv q.1 q.2.1 q.2.2
def PtrOk (q : PtrV) : Prop := IsPtr q.1 q.2.1 q.2.2
section
variable {At : World → (Nat → Prop) → Nat → Pw → Prop}
/-- A pile that a law has made, since the world w0. -/
structure HasP (At : World → (Nat → Prop) → Nat → Pw → Prop) (w0 w : World) (O : Nat → Prop) (g : Nat) (P : Pw) : Prop where
  at_ : At w O g P
  lo : ∀ k, O k → w0.heap.size ≤ k
  below : Below w0.heap.size w0 w
variable {w0 w w' : World} {O O' : Nat → Prop} {g : Nat} {P P' : Pw}
theorem HasP.step (h : HasP At w0 w O g P) (k : At w' O' g P') (s : Step w w' O O') : HasP At w0 w' O' g P' :=
  ⟨k, fun j hj => (s.new j hj).elim (h.lo j) fun h2 => Nat.le_trans h.below.size h2, h.below.trans (s.chg.below h.lo h.below.size)⟩
theorem HasP.first (hb : Below w0.heap.size w0 w) (h : At w' O g P) (hO : ∀ k, O k → w.heap.size ≤ k) (hb' : Below w.heap.size w w') : HasP At w0 w' O g P :=
  ⟨h, fun k hk => Nat.le_trans hb.size (hO k hk), hb.trans (hb'.mono hb.size)⟩
end

/-! ### The reference's Block -/
def blkK (l : List UInt8) (k : Nat) : Sec := blockS (l.take k)
theorem blkK_zero (l : List UInt8) : blkK l 0 = zsec := by kernel_rfl
theorem blockS_cs (l : List UInt8) (j : Nat) (hj : j < 128) : (blockS l).cs[j]? = some (.int .u8 ((l.getD j 0).toNat : Int)) := by
  rw [Sec.at_ _ j hj, blockS_at l j hj]
theorem blkK_all {l : List UInt8} {k : Nat} (h : l.length ≤ k ∨ 128 ≤ k) : blkK l k = blockS l := by
  refine Sec.eq ?_
  rcases h with h | h
  · unfold blkK
    rw [List.take_of_length_le h]
  · refine List.ext_getElem (by rw [(blkK l k).h, (blockS l).h]) fun j h1 h2 => ?_
    have hj : j < 128 := by rw [(blockS l).h] at h2; exact h2
    rw [blockS_at l j hj]
    refine (blockS_at (l.take k) j hj).trans ?_
    simp only [List.getD, List.getElem?_take]
    rw [if_pos (by omega)]
theorem blkK_set {l : List UInt8} {k : Nat} (hk : k < l.length) (h8 : k < 128) : (blkK l k).cs.toArray.setIfInBounds k (.int .u8 (l[k].toNat : Int)) = (blkK l (k + 1)).cs.toArray := by
  refine Array.ext_getElem? fun j => ?_
  rw [Array.getElem?_setIfInBounds, List.getElem?_toArray, List.getElem?_toArray, List.size_toArray, Sec.cs_len]
  by_cases hj : j < 128
  · have e1 : (blkK l k).cs[j]? = _ := blockS_cs (l.take k) j hj
    have e2 : (blkK l (k + 1)).cs[j]? = _ := blockS_cs (l.take (k + 1)) j hj
    rw [e1, e2]
    simp only [List.getD, List.getElem?_take]
    by_cases h : k = j
    · subst h
      rw [if_pos rfl, if_pos hj, if_pos (by omega), List.getElem?_eq_getElem hk]
      rfl
    · rw [if_neg h]
      by_cases h2 : j < k
      · rw [if_pos h2, if_pos (by omega)]
      · rw [if_neg h2, if_neg (by omega)]
  · rw [if_neg (by omega), List.getElem?_eq_none (by rw [Sec.cs_len]; omega), List.getElem?_eq_none (by rw [Sec.cs_len]; omega)]
end
section
open Go.RowKit

/-- A block that no call on the pile turns. -/
structure BlkA (w : World) (O : Nat → Prop) (g : Nat) (t : TypeId) (cs : Array Value) : Prop where
  blk : Blk w g t cs
  far : ¬ O g
section
variable {w w' : World} {O O' : Nat → Prop} {g : Nat} {t : TypeId} {cs : Array Value}
theorem BlkA.step (h : BlkA w O g t cs) (s : Step w w' O O') : BlkA w' O' g t cs := ⟨h.blk.chg s.chg h.far, fun ho => (s.new g ho).elim h.far fun hs => by have := h.blk.lt; omega⟩
theorem BlkA.later (h : BlkA w O g t cs) (hb : Below w.heap.size w w') : BlkA w' O g t cs := ⟨h.blk.below hb h.blk.lt, h.far⟩
/-- A pointer's box, newly laid and written. -/
theorem zeroPtr (w : World) : Sem.run Try.prog (zeroValue 25) w = .ok (ptv 0 0 0) w := by
  obtain ⟨i, hi⟩ : ∃ i, Try.prog.info? 25 = some i := info_of_underlying Try.underlying25
  have h : (Try.prog.info? 25).map (fun i => i.zero) = some (some (ptv 0 0 0)) := by kernel_rfl
  rw [hi] at h
  simp only [Option.map_some, Option.some.injEq] at h
  simp [zeroValue, typeInfo, hi, h]
end
theorem ex_ldS {o : Oper} {a : Act} {w : World} (x : Operand) (ho : o.op = .load 46 x) (g : Nat) (s : Sec) (hx : a.eval x = .pointer (some ⟨g, 0, none⟩)) (hg : Blk w g 46 s.cs.toArray) :
    (execOp a.eval o).run Try.prog w = .ok (.value (.agg s.cs.toArray)) w := by
  have h := run_loadAt_mid w g 0 _ s.cs _ hg.secIs Try.underlying46 rfl (sizeSec' s)
  unfold execOp
  simp only [ho, hx, h, Sem.run_bind, Sem.run_pure, Result.andThen_ok]
theorem ex_ldP {o : Oper} {a : Act} {w : World} (x : Operand) (ho : o.op = .load 25 x) (g : Nat) (i j k : Int) (hx : a.eval x = .pointer (some ⟨g, 0, none⟩)) (hg : Blk w g 25 (pcs i j k)) :
    (execOp a.eval o).run Try.prog w = .ok (.value (ptv i j k)) w := by
  have h := run_loadAt_mid w g 0 _ [.int .i64 i, .int .u64 j, .int .u32 k] _ (hg.range 0 _ fun j v hv => by rw [Nat.zero_add, List.getElem?_toArray]; exact hv) Try.underlying25 rfl ptr_size
  unfold execOp
  simp only [ho, hx, h, Sem.run_bind, Sem.run_pure, Result.andThen_ok]
section
end
end
section
open Go.RowKit

def pqs (l : List PtrV) : List Value := l.flatMap fun q => [.int .i64 q.1, .int .u64 q.2.1, .int .u32 q.2.2]
theorem pqs_len : ∀ l : List PtrV, (pqs l).length = l.length * 3
  | [] => rfl
  | q :: r => by
    have := pqs_len r
    simp only [pqs, List.flatMap_cons, List.length_append, List.length_cons, List.length_nil] at this ⊢
    omega
theorem pqs_snoc (l : List PtrV) (q : PtrV) : pqs (l ++ [q]) = pqs l ++ [.int .i64 q.1, .int .u64 q.2.1, .int .u32 q.2.2] := by simp [pqs]
theorem pqs_at : ∀ (l : List PtrV) (k : Nat) (h : k < l.length), (pqs l)[k * 3]? = some (.int .i64 l[k].1) ∧ (pqs l)[k * 3 + 1]? = some (.int .u64 l[k].2.1) ∧ (pqs l)[k * 3 + 2]? = some (.int .u32 l[k].2.2)
  | q :: r, 0, _ => ⟨rfl, rfl, rfl⟩
  | q :: r, k + 1, h => by
    have := pqs_at r k (by simpa using h)
    rw [show (k + 1) * 3 = k * 3 + 1 + 1 + 1 by omega]
    exact this
theorem pq_at {w : World} {B : Nat} {A : Option Addr} {l : List PtrV} (h : Rd w B A (pqs l)) (k : Nat) (hk : k < l.length) :
    ∃ b off, A = some ⟨b, off, none⟩ ∧ b < B ∧ w.cell? ⟨b, off + k * 3, none⟩ = some (.int .i64 l[k].1) ∧ w.cell? ⟨b, off + k * 3 + 1, none⟩ = some (.int .u64 l[k].2.1) ∧ w.cell? ⟨b, off + k * 3 + 2, none⟩ = some (.int .u32 l[k].2.2) := by
  obtain ⟨h1, h2, h3⟩ := pqs_at l k hk
  obtain ⟨b, off, rfl, hl, hc⟩ := h (by rw [pqs_len]; omega)
  exact ⟨b, off, rfl, hl, hc _ _ h1, hc _ _ h2, hc _ _ h3⟩
theorem infoPtr : (Try.prog.info? 25).map (fun i => (i.zero, i.size, i.bytes)) = some (some (ptv 0 0 0), 3, 24) := by kernel_rfl
def OwnQ (w : World) (base : Nat) (v : Value) (l : List PtrV) : Prop := w.ownsRow base 25 3 v l.length (pqs l)
/-- append of one pointer that lies in the newest block. -/
theorem app_ptr {ops : Array Oper} {rest : List Oper} {o : Oper} {a : Act} {w : World} {Q : Exit → Act → World → Prop} (hgd : o.guard = none) (s x : Nat)
    (ho : o.op = .call { callee := .builtin .append, args := #[.tmp s, .tmp x], argTypes := #[40, 40] })
    (base : Nat) (v : Value) (l : List PtrV) (hs : a.eval (.tmp s) = v) (hown : OwnQ w base v l) (q : PtrV)
    (g0 : Nat) (hg : g0 = w.heap.size) (hx : a.eval (.tmp x) = .slice (some ⟨g0, 0, none⟩) 1 1) (hbase : base ≤ w.heap.size) (hn : l.length ≤ 1048576)
    (h : ∀ v' w', OwnQ w' base v' (l ++ [q]) → (w.alloc (.cells (pcs q.1 q.2.1 q.2.2) 25)).grownBy w' v.ownBlock → (∀ k, v'.ownBlock = some k → v.ownBlock = some k ∨ w.heap.size ≤ k) → wpList Try.prog ops Q rest (a.put o.dst v') w') :
    wpList Try.prog ops Q (o :: rest) a (w.alloc (.cells (pcs q.1 q.2.1 q.2.2) 25)) := by
  subst hg
  obtain ⟨i0, hi0, hz0, hz2, hz3⟩ := info_parts infoPtr
  refine wpList_append_lies _ hgd (.tmp s) (.tmp x) _ ho base 25 i0 _ 3 24 Try.underlying40 hi0 hz0 hz2 hz3 rfl (by omega) v l.length (pqs l) hs (World.ownsRow.alloc hown _)
    ⟨w.heap.size, 0, none⟩ 1 1 [.int .i64 q.1, .int .u64 q.2.1, .int .u32 q.2.2] hx rfl (rd_add (rd_new w (pcs q.1 q.2.1 q.2.2) 25)) (by simp [Value.oneCell']) (by omega) (by simp only [maxLen]; omega) (by omega) (by simp; omega) (w.heap.size + 1) (by simp) ?_
  intro g cap w' h1 h2 h3 _
  refine h _ w' ?_ h2 ?_
  · show w'.ownsRow base 25 3 _ (l ++ [q]).length (pqs (l ++ [q]))
    rw [pqs_snoc, List.length_append]
    exact h1
  · intro k hk
    rcases h3 with h3 | h3
    · left; rw [h3, ← hk]; rfl
    · right
      have : g = k := by simpa [Value.ownBlock] using hk
      omega
/-- append([]byte{}, t...): a copy that no pile has. -/
theorem app_bytes {ops : Array Oper} {rest : List Oper} {o : Oper} {a : Act} {w : World} {Q : Exit → Act → World → Prop} (hgd : o.guard = none) (s x : Nat)
    (ho : o.op = .call { callee := .builtin .append, args := #[.tmp s, .tmp x], argTypes := #[34, 34] })
    (hs : a.eval (.tmp s) = .slice (some ⟨w.heap.size, 0, none⟩) 0 0) (B : Nat) (A : Option Addr) (m c : Nat) (t : List UInt8) (O : Nat → Prop)
    (hx : a.eval (.tmp x) = .slice A m c) (hm : t.length = m) (hr : Rd (w.alloc (.cells #[] 5)) B A (bys t)) (hn : m ≤ 140737488355328) (hO : ∀ k, O k → k < w.heap.size)
    (h : ∀ A' c' w', RdA w' O A' (bys t) → Below w.heap.size w w' → wpList Try.prog ops Q rest (a.put o.dst (.slice A' m c')) w') :
    wpList Try.prog ops Q (o :: rest) a (w.alloc (.cells #[] 5)) := by
  subst hm
  have hE : (w.alloc (.cells #[] 5)).ownsRow w.heap.size 5 1 (.slice (some ⟨w.heap.size, 0, none⟩) 0 0) 0 [] := World.ownsRow_lit (base := w.heap.size) (e := 5) (size := 1) w #[] 0 (Nat.le_refl _) (by simp [maxLen]) rfl
  refine app_all Try.underlying34 infoByte rfl hgd s x ho w.heap.size _ 0 [] hs hE B A t.length c _ hx (by rw [bys_len]) hr bys_one (by simp) (by omega) (by omega) ?_
  intro v' w' h1 h2
  simp only [Nat.zero_add, List.nil_append] at h1
  obtain ⟨A', c', rfl, hX, _⟩ := own_rd h1
  refine h A' c' w' ⟨hX, fun b off e hp ho => ?_⟩ (below_own ((Below.refl _ _).alloc (Nat.le_refl _) _) hE (Nat.le_refl _) (by simp) h2)
  rw [bys_len] at hp
  obtain ⟨g, cap, e2, hN, _⟩ := own_form h1 hp
  rw [e] at e2
  simp only [Value.slice.injEq, Option.some.injEq, Addr.mk.injEq] at e2
  have := hO b ho
  omega
/-! ### Texts in memory -/
abbrev Tx := Option Addr × Nat × List UInt8
def txv (t : Tx) : Value := .slice t.1 t.2.2.length t.2.1
def txs (l : List Tx) : List Value := l.map txv
def TxIn (w : World) (B : Nat) (l : List Tx) : Prop := ∀ t ∈ l, Rd w B t.1 (bys t.2.2) ∧ t.2.2.length ≤ t.2.1
theorem txs_len (l : List Tx) : (txs l).length = l.length := by simp [txs]
theorem txs_at (l : List Tx) (k : Nat) (h : k < l.length) : (txs l)[k]? = some (.slice l[k].1 l[k].2.2.length l[k].2.1) := by simp [txs, txv, h]
theorem tx_at {w : World} {B : Nat} {A : Option Addr} {l : List Tx} (h : Rd w B A (txs l)) (k : Nat) (hk : k < l.length) :
    ∃ b off, A = some ⟨b, off, none⟩ ∧ b < B ∧ w.cell? ⟨b, off + k, none⟩ = some (.slice l[k].1 l[k].2.2.length l[k].2.1) := h.at_ k _ (txs_at l k hk)
theorem TxIn.below {w w' : World} {B : Nat} {l : List Tx} (h : TxIn w B l) (hb : Below B w w') : TxIn w' B l := fun t ht => ⟨(h t ht).1.below hb, (h t ht).2⟩

/-! ### What is put and had -/
theorem getD_set (l : List Sec) (i j : Nat) (x : Sec) (hj : j < l.length) : (l.set i x).getD j zsec = if i = j then x else l.getD j zsec := by
  by_cases h : i = j
  · subst h
    rw [if_pos rfl]
    simp [List.getD, hj]
  · rw [if_neg h]
    simp [List.getD, List.getElem?_set_ne h]
end
section
open Go.RowKit

/-- A step of a plain region, told by the slot that it writes. -/
theorem wpList_valD {P : Program} {ops : Array Oper} {rest : List Oper} {o : Oper} {a : Act} {w w' : World} {Q : Exit → Act → World → Prop} (d : Tmp) (_hd : o.dst = some d) (v : Value)
    (hrun : (execOp a.eval o).run P w = .ok (.value v) w') (hw : Region.wanted o (yielded ops a.tmps) = true) (h : wpList P ops Q rest (a.put o.dst v) w') : wpList P ops Q (o :: rest) a w := wpList_val hw v hrun h
section
end
end
section
open Go.RowKit

theorem step_stPt {ops : Array Oper} {o : Oper} {a : Act} {w : World} {K : Act → World → Prop} {Q : Exit → Act → World → Prop} {E : Prop} (hgd : o.guard = none) (x y : Operand) (ho : o.op = .store 25 x y)
    (b : Nat) (i j k i0 j0 k0 : Int) (hx : a.eval x = .pointer (some ⟨b, 0, none⟩)) (hy : a.eval y = ptv i j k) (hb : Blk w b 25 (pcs i0 j0 k0))
    (h : ∀ w', Blk w' b 25 (pcs i j k) → (∀ B x, Below B x w → B ≤ b → Below B x w') → (∀ O, O b → Chg w w' O) → K (a.put o.dst undef) w') : if Region.wanted o (yielded ops a.tmps) = true then Oper.wp Try.prog o a w K Q else E := by
  have hw : Region.wanted o (yielded ops a.tmps) = true := by simp [Region.wanted, hgd]
  rw [if_pos hw]
  have hs : ([.int .i64 i, .int .u64 j, .int .u32 k] : List Value).length = (pcs i0 j0 k0).size := rfl
  exact wp_store_mid _ x y ho b 0 (pcs i j k) hx hy (hb.there 0 3 (by simp)) ptr_size (all_one (cs := [.int .i64 i, .int .u64 j, .int .u32 k]) (by intro v hv; simp only [List.mem_cons, List.not_mem_nil, or_false] at hv; rcases hv with rfl | rfl | rfl <;> rfl)) (h _ (hb.setAll _ hs) (fun B x hB hle => Below.setCells b hle _ _ hB) (fun O hO => Chg.setCells (.inl hO) _ _ (Chg.refl _ _)))
theorem st_pt2 {ops : Array Oper} {rest : List Oper} {o : Oper} {act : Act} {w : World} {Q : Exit → Act → World → Prop} (hgd : o.guard = none) (x y : Operand) (ho : o.op = .store 25 x y)
    (g : Nat) (cs : Array Value) (a b s : Int) (hx : act.eval x = .pointer (some ⟨g, 0, none⟩)) (hy : act.eval y = ptv a b s) (hB : Blk w g 25 cs) (h3 : cs.size = 3)
    (h : ∀ w', Blk w' g 25 (pcs a b s) → (∀ O, O g → Chg w w' O) → wpList Try.prog ops Q rest (act.put o.dst undef) w') : wpList Try.prog ops Q (o :: rest) act w := by
  refine wpList_store_mid hgd _ x y ho g 0 (pcs a b s) hx hy (hB.there 0 3 (by omega)) ptr_size (by simp [Value.oneCell']) ?_
  exact h _ (hB.setAll [.int .i64 a, .int .u64 b, .int .u32 s] (by rw [h3]; rfl)) fun O hO => Chg.setCells (.inl hO) _ _ (Chg.refl _ _)
end
end Go.Proofs.Ytdcegkeaopjbnaa
