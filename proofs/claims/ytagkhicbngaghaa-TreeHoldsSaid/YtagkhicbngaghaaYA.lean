/- The texts Y1 Y2 Y3 Y4 Y5 Y6 Y7 Y8 Y9 Y10 Y11. -/
import Derived.Test.YtagkhicbngaghaaTA
import Derived.Test.YtagkhicbngaghaaHA
import Derived.Test.YtagkhicbngaghaaOC
import Derived.StillTailTactics
set_option maxRecDepth 10000
namespace Go.Proofs.Ytagkhicbngaghaa

section
open Go.RowKit

structure Wy where
  a0 : Nat
  a1 : Nat
  n0 : P8
  n1 : P8
  p0 : PtrV
  p1 : PtrV
  p2 : PtrV
def Wy.cs (v : Wy) : List Value := [.int .i64 (v.a0 : Int), .int .i64 (v.a1 : Int)] ++ (v.n0.cs ++ (v.n1.cs ++ pqs [v.p0, v.p1, v.p2]))
def zwy : Wy := ⟨0, 0, zp8, zp8, hole0, hole0, hole0⟩
def Wy.a (v : Wy) (k : Nat) : Nat := if k = 0 then v.a0 else v.a1
def Wy.n (v : Wy) (k : Nat) : P8 := if k = 0 then v.n0 else v.n1
def Wy.p (v : Wy) (k : Nat) : PtrV := if k = 0 then v.p0 else if k = 1 then v.p1 else v.p2
def Wy.setN (v : Wy) (k : Nat) (x : P8) : Wy := if k = 0 then { v with n0 := x } else { v with n1 := x }
def Wy.setP (v : Wy) (k : Nat) (q : PtrV) : Wy := if k = 0 then { v with p0 := q } else if k = 1 then { v with p1 := q } else { v with p2 := q }
theorem Wy.cs_len (v : Wy) : v.cs.length = 59 := by
  unfold Wy.cs
  simp [P8.cs_len, pqs_len]
theorem Wy.get (v : Wy) (i : Nat) : v.cs[i]? = if i < 2 then ([.int .i64 (v.a0 : Int), .int .i64 (v.a1 : Int)] : List Value)[i]? else if i < 26 then v.n0.cs[i - 2]? else if i < 50 then v.n1.cs[i - 26]? else (pqs [v.p0, v.p1, v.p2])[i - 50]? := by
  unfold Wy.cs
  rw [List.getElem?_append, List.length_cons, List.length_cons, List.length_nil]
  split
  · rfl
  · rw [List.getElem?_append, P8.cs_len]
    by_cases h : i < 26
    · rw [if_pos (by omega), if_pos h]
    · rw [if_neg (by omega), if_neg h, List.getElem?_append, P8.cs_len]
      by_cases h2 : i < 50
      · rw [if_pos (by omega), if_pos h2, show i - (0 + 1 + 1) - 24 = i - 26 by omega]
      · rw [if_neg (by omega), if_neg h2, show i - (0 + 1 + 1) - 24 - 24 = i - 50 by omega]
theorem Wy.one (v : Wy) : ∀ u ∈ v.cs, u.oneCell' = true := by
  intro u hu
  unfold Wy.cs at hu
  simp only [List.mem_append, List.mem_cons, List.not_mem_nil, or_false] at hu
  rcases hu with (rfl | rfl) | h | h | h
  · rfl
  · rfl
  · exact v.n0.one u h
  · exact v.n1.one u h
  · exact pqs_one u h
theorem infoWy : (Try.prog.info? 71).map (fun i => (i.zero, i.size)) = some (some (.agg zwy.cs.toArray), 59) := by kernel_rfl
theorem sizeWy0 : (Try.prog.info? 71).map (·.size) = some 59 := by kernel_rfl
theorem sizeWy' (v : Wy) : (Try.prog.info? 71).map (·.size) = some v.cs.length := by rw [Wy.cs_len]; exact sizeWy0
theorem sizeWy'' (v : Wy) : (Try.prog.info? 71).map (·.size) = some v.cs.toArray.size := by rw [List.size_toArray, Wy.cs_len]; exact sizeWy0
theorem zeroWy (w : World) : Sem.run Try.prog (zeroValue 71) w = .ok (.agg zwy.cs.toArray) w := by
  obtain ⟨i, hi⟩ : ∃ i, Try.prog.info? 71 = some i := info_of_underlying Try.underlying71
  have h := infoWy
  rw [hi] at h
  simp only [Option.map_some, Option.some.injEq, Prod.mk.injEq] at h
  simp [zeroValue, typeInfo, hi, h.1]
theorem buildWy0 (w : World) : (Instr.build 71 #[]).run Try.prog w = .ok (.agg zwy.cs.toArray) w := by
  refine run_build w _ _ _ ?_
  kernel_rfl
theorem buildWy1 (a b : Nat) (w : World) : (Instr.build 71 #[(0, .agg #[.int .i64 (a : Int), .int .i64 (b : Int)])]).run Try.prog w = .ok (.agg (Wy.mk a b zp8 zp8 hole0 hole0 hole0).cs.toArray) w := by
  refine run_build w _ _ _ ?_
  kernel_rfl
theorem ex_buildWy0 {o : Oper} {a : Act} {w : World} (ho : o.op = .build 71 #[]) : (execOp a.eval o).run Try.prog w = .ok (.value (.agg zwy.cs.toArray)) w := by
  have hb := buildWy0 w
  unfold execOp
  simp only [ho, List.map_toArray, List.map_nil, Sem.run_bind, hb, Sem.run_pure, Result.andThen_ok]
theorem ex_buildWy1 {o : Oper} {a : Act} {w : World} (x : Operand) (ho : o.op = .build 71 #[(0, x)]) (m n : Nat) (hx : a.eval x = .agg #[.int .i64 (m : Int), .int .i64 (n : Int)]) :
    (execOp a.eval o).run Try.prog w = .ok (.value (.agg (Wy.mk m n zp8 zp8 hole0 hole0 hole0).cs.toArray)) w := by
  have hb := buildWy1 m n w
  unfold execOp
  simp only [ho, hx, List.map_toArray, List.map_cons, List.map_nil, Sem.run_bind, hb, Sem.run_pure, Result.andThen_ok]
theorem sizeI2 : (Try.prog.info? 66).map (·.size) = some 2 := by kernel_rfl
theorem buildI2 (a b : Int) (w : World) : (Instr.build 66 #[(0, .int .i64 a), (1, .int .i64 b)]).run Try.prog w = .ok (.agg #[.int .i64 a, .int .i64 b]) w := by
  refine run_build w _ _ _ ?_
  kernel_rfl
theorem ex_buildI2 {o : Oper} {a : Act} {w : World} (x y : Operand) (ho : o.op = .build 66 #[(0, x), (1, y)]) (m n : Int) (hx : a.eval x = .int .i64 m) (hy : a.eval y = .int .i64 n) :
    (execOp a.eval o).run Try.prog w = .ok (.value (.agg #[.int .i64 m, .int .i64 n])) w := by
  have hb := buildI2 m n w
  unfold execOp
  simp only [ho, hx, hy, List.map_toArray, List.map_cons, List.map_nil, Sem.run_bind, hb, Sem.run_pure, Result.andThen_ok]
theorem isAggI (w : World) : (isAgg 3).run Try.prog w = .ok false w := by
  simp [isAgg, run_underlying Try.underlying3]
theorem sizeInt1 : (Try.prog.info? 3).map (·.size) = some 1 := by kernel_rfl
theorem run_ix2 (a b : Int) (k : Nat) (hk : k < 2) (w : World) : (Instr.index 66 (.agg #[.int .i64 a, .int .i64 b]) (.int .i64 (k : Int))).run Try.prog w = .ok (.int .i64 (if k = 0 then a else b)) w := by
  refine run_index_arr Try.underlying66 isAggI sizeInt1 _ k hk _ ?_ w
  match k, hk with
  | 0, _ => rfl
  | 1, _ => rfl
/-- A way is loaded, stored. -/
theorem ld_wy {ops : Array Oper} {rest : List Oper} {o : Oper} {a : Act} {w : World} {Q : Exit → Act → World → Prop} (hgd : o.guard = none) (x : Operand) (ho : o.op = .load 71 x)
    (b k : Nat) (p : Wy) (hx : a.eval x = .pointer (some ⟨b, k, none⟩)) (hr : w.rangeAt b k p.cs)
    (h : wpList Try.prog ops Q rest (a.put o.dst (.agg p.cs.toArray)) w) : wpList Try.prog ops Q (o :: rest) a w :=
  wpList_load_mid hgd _ x ho b k hx p.cs _ hr Try.underlying71 rfl (sizeWy' p) h
theorem st_wy {ops : Array Oper} {rest : List Oper} {o : Oper} {a : Act} {w : World} {Q : Exit → Act → World → Prop} (hgd : o.guard = none) (x y : Operand) (ho : o.op = .store 71 x y)
    (b k : Nat) (p : Wy) (hx : a.eval x = .pointer (some ⟨b, k, none⟩)) (hy : a.eval y = .agg p.cs.toArray) (ht : w.there b k 59)
    (h : ∀ w', Hid (w' = w.setCells b k p.cs) → wpList Try.prog ops Q rest (a.put o.dst undef) w') : wpList Try.prog ops Q (o :: rest) a w :=
  wpList_store_mid hgd _ x y ho b k p.cs.toArray hx hy (by rw [List.size_toArray, Wy.cs_len]; exact ht) (sizeWy'' p) (all_one p.one) (h _ rfl)
/-- Two numbers are loaded. -/
theorem ld_i2 {ops : Array Oper} {rest : List Oper} {o : Oper} {a : Act} {w : World} {Q : Exit → Act → World → Prop} (hgd : o.guard = none) (x : Operand) (ho : o.op = .load 66 x)
    (b k : Nat) (m n : Int) (hx : a.eval x = .pointer (some ⟨b, k, none⟩)) (hr : w.rangeAt b k [.int .i64 m, .int .i64 n])
    (h : wpList Try.prog ops Q rest (a.put o.dst (.agg #[.int .i64 m, .int .i64 n])) w) : wpList Try.prog ops Q (o :: rest) a w :=
  wpList_load_mid hgd _ x ho b k hx [.int .i64 m, .int .i64 n] _ hr Try.underlying66 rfl sizeI2 h
section
variable {w : World} {g : Nat} {t : TypeId} {v : Wy}
theorem Blk.wyAll (h : Blk w g t v.cs.toArray) (u : Wy) : Blk (w.setCells g 0 u.cs) g t u.cs.toArray := h.setAll _ (by rw [List.size_toArray, Wy.cs_len, Wy.cs_len])
theorem Blk.wyHas (h : Blk w g t v.cs.toArray) : w.there g 0 59 := h.there 0 59 (by rw [List.size_toArray, Wy.cs_len]; omega)
theorem Blk.wyIs (h : Blk w g t v.cs.toArray) : w.rangeAt g 0 v.cs := h.range 0 v.cs fun j u hv => by rw [Nat.zero_add, List.getElem?_toArray]; exact hv
theorem Blk.wyA (h : Blk w g t v.cs.toArray) : w.rangeAt g 0 [.int .i64 (v.a0 : Int), .int .i64 (v.a1 : Int)] := h.range 0 _ fun j u hv => by
  have hj : j < 2 := by
    have := (List.getElem?_eq_some_iff.1 hv).1
    simpa using this
  rw [Nat.zero_add, List.getElem?_toArray, Wy.get, if_pos hj]
  exact hv
theorem Blk.wyAt (h : Blk w g t v.cs.toArray) (k : Nat) (hk : k < 2) : w.cell? ⟨g, k, none⟩ = some (.int .i64 (v.a k : Int)) := by
  rw [h.cell k, List.getElem?_toArray, Wy.get, if_pos hk]
  match k, hk with
  | 0, _ => rfl
  | 1, _ => rfl
theorem Wy.nodeAt (v : Wy) (k : Nat) (hk : k < 2) (j : Nat) (hj : j < 24) : v.cs[2 + k * 24 + j]? = (v.n k).cs[j]? := by
  rw [Wy.get]
  match k, hk with
  | 0, _ => rw [if_neg (by omega), if_pos (by omega), show 2 + 0 * 24 + j - 2 = j by omega]; rfl
  | 1, _ => rw [if_neg (by omega), if_neg (by omega), if_pos (by omega), show 2 + 1 * 24 + j - 26 = j by omega]; rfl
theorem Blk.wyNode (h : Blk w g t v.cs.toArray) (k : Nat) (hk : k < 2) : w.rangeAt g (2 + k * 24) (v.n k).cs := h.range _ _ fun j u hv => by
  have hj : j < 24 := by
    have := (List.getElem?_eq_some_iff.1 hv).1
    rwa [P8.cs_len] at this
  rw [List.getElem?_toArray, v.nodeAt k hk j hj]
  exact hv
theorem Wy.ptrAt (v : Wy) (k : Nat) (hk : k < 3) (j : Nat) (hj : j < 3) : v.cs[50 + k * 3 + j]? = ([.int .i64 (v.p k).1, .int .u64 (v.p k).2.1, .int .u32 (v.p k).2.2] : List Value)[j]? := by
  rw [Wy.get, if_neg (by omega), if_neg (by omega), if_neg (by omega), show 50 + k * 3 + j - 50 = k * 3 + j by omega]
  match k, hk, j, hj with
  | 0, _, 0, _ => rfl
  | 0, _, 1, _ => rfl
  | 0, _, 2, _ => rfl
  | 1, _, 0, _ => rfl
  | 1, _, 1, _ => rfl
  | 1, _, 2, _ => rfl
  | 2, _, 0, _ => rfl
  | 2, _, 1, _ => rfl
  | 2, _, 2, _ => rfl
theorem Blk.wyPtr (h : Blk w g t v.cs.toArray) (k : Nat) (hk : k < 3) : w.rangeAt g (50 + k * 3) [.int .i64 (v.p k).1, .int .u64 (v.p k).2.1, .int .u32 (v.p k).2.2] := h.range _ _ fun j u hv => by
  have hj : j < 3 := by
    have := (List.getElem?_eq_some_iff.1 hv).1
    simpa using this
  rw [List.getElem?_toArray, v.ptrAt k hk j hj]
  exact hv
theorem Blk.wyThereN (h : Blk w g t v.cs.toArray) (k : Nat) (hk : k < 2) : w.there g (2 + k * 24) 24 := h.there _ _ (by rw [List.size_toArray, Wy.cs_len]; omega)
theorem Blk.wyThereQ (h : Blk w g t v.cs.toArray) (k : Nat) (hk : k < 2) (j : Nat) (hj : j < 8) : w.there g (2 + k * 24 + j * 3) 3 := h.there _ _ (by rw [List.size_toArray, Wy.cs_len]; omega)
theorem Blk.wyThereP (h : Blk w g t v.cs.toArray) (k : Nat) (hk : k < 3) : w.there g (50 + k * 3) 3 := h.there _ _ (by rw [List.size_toArray, Wy.cs_len]; omega)
theorem Wy.eq_of {cs : Array Value} (u : Wy) (o n : Nat) (vs : List Value) (hn : vs.length = n)
    (h1 : ∀ j, j < n → u.cs[o + j]? = vs[j]?) (h2 : ∀ i, ¬ (o ≤ i ∧ i < o + n) → u.cs[i]? = cs[i]?) : ∀ k, u.cs.toArray[k]? = if o ≤ k ∧ k < o + vs.length then vs[k - o]? else cs[k]? := fun k => by
  rw [List.getElem?_toArray, hn]
  split
  · next h =>
    have := h1 (k - o) (by omega)
    rwa [show o + (k - o) = k by omega] at this
  · next h => exact h2 k h
theorem Wy.setN_out (v : Wy) (k : Nat) (hk : k < 2) (x : P8) (i : Nat) (hi : ¬ (2 + k * 24 ≤ i ∧ i < 2 + k * 24 + 24)) : (v.setN k x).cs[i]? = v.cs[i]? := by
  rw [Wy.get, Wy.get]
  match k, hk with
  | 0, _ =>
    by_cases h1 : i < 2
    · rw [if_pos h1, if_pos h1]; rfl
    · rw [if_neg h1, if_neg h1, if_neg (c := i < 26) (by omega), if_neg (c := i < 26) (by omega)]; rfl
  | 1, _ =>
    by_cases h1 : i < 2
    · rw [if_pos h1, if_pos h1]; rfl
    · rw [if_neg h1, if_neg h1]
      by_cases h2 : i < 26
      · rw [if_pos h2, if_pos h2]; rfl
      · rw [if_neg h2, if_neg h2, if_neg (by omega), if_neg (by omega)]; rfl
theorem Wy.setN_n (v : Wy) (k : Nat) (x : P8) : (v.setN k x).n k = x := by
  unfold Wy.setN Wy.n
  by_cases h : k = 0
  · rw [if_pos h, if_pos h]
  · rw [if_neg h, if_neg h]
theorem Wy.setP_p (v : Wy) (k : Nat) (x : PtrV) : (v.setP k x).p k = x := by
  unfold Wy.setP Wy.p
  by_cases h : k = 0
  · rw [if_pos h, if_pos h]
  · by_cases h1 : k = 1
    · rw [if_neg h, if_neg h, if_pos h1, if_pos h1]
    · rw [if_neg h, if_neg h, if_neg h1, if_neg h1]
theorem Blk.wyNSet (h : Blk w g t v.cs.toArray) (k : Nat) (hk : k < 2) (x : P8) : Blk (w.setCells g (2 + k * 24) x.cs) g t (v.setN k x).cs.toArray := by
  refine h.setTo _ _ (by rw [List.size_toArray, Wy.cs_len, P8.cs_len]; omega) (Wy.eq_of _ _ 24 _ (P8.cs_len x) (fun j hj => ?_) fun i hi => ?_)
  · rw [Wy.nodeAt _ k hk j hj, Wy.setN_n]
  · rw [List.getElem?_toArray]
    exact v.setN_out k hk x i hi
theorem Blk.wyQSet (h : Blk w g t v.cs.toArray) (k : Nat) (hk : k < 2) (j : Nat) (hj : j < 8) (q : PtrV) : Blk (w.setCells g (2 + k * 24 + j * 3) [.int .i64 q.1, .int .u64 q.2.1, .int .u32 q.2.2]) g t (v.setN k ((v.n k).set j q)).cs.toArray := by
  refine h.setTo _ _ (by rw [List.size_toArray, Wy.cs_len]; simp; omega) (Wy.eq_of _ _ 3 _ rfl (fun i hi => ?_) fun i hi => ?_)
  · have h3 := ((v.n k).set j q).cell j hj
    rw [P8.set_at _ _ _ _ hj, if_pos rfl] at h3
    rw [Nat.add_assoc, Wy.nodeAt _ k hk _ (by omega), Wy.setN_n]
    match i, hi with
    | 0, _ => exact h3.1
    | 1, _ => exact h3.2.1
    | 2, _ => exact h3.2.2
  · rw [List.getElem?_toArray]
    by_cases hin : 2 + k * 24 ≤ i ∧ i < 2 + k * 24 + 24
    · obtain ⟨m, rfl⟩ : ∃ m, i = 2 + k * 24 + m := ⟨i - (2 + k * 24), by omega⟩
      have hm : m < 24 := by omega
      rw [Wy.nodeAt _ k hk m hm, Wy.nodeAt _ k hk m hm, Wy.setN_n]
      have h1 : m = m / 3 * 3 + m % 3 := by omega
      have h2 : m / 3 < 8 := by omega
      have h3 : m % 3 < 3 := by omega
      have h4 : j ≠ m / 3 := by omega
      obtain ⟨c0, c1, c2⟩ := ((v.n k).set j q).cell (m / 3) h2
      obtain ⟨d0, d1, d2⟩ := (v.n k).cell (m / 3) h2
      rw [P8.set_at _ _ _ _ h2, if_neg h4] at c0 c1 c2
      rw [h1]
      generalize m % 3 = r at *
      match r, h3 with
      | 0, _ => exact c0.trans d0.symm
      | 1, _ => exact c1.trans d1.symm
      | 2, _ => exact c2.trans d2.symm
    · exact v.setN_out k hk _ i hin
theorem Wy.setP_out (v : Wy) (k : Nat) (hk : k < 3) (x : PtrV) (i : Nat) (hi : ¬ (50 + k * 3 ≤ i ∧ i < 50 + k * 3 + 3)) : (v.setP k x).cs[i]? = v.cs[i]? := by
  by_cases h50 : i < 50
  · rw [Wy.get, Wy.get]
    have e : (v.setP k x).a0 = v.a0 ∧ (v.setP k x).a1 = v.a1 ∧ (v.setP k x).n0 = v.n0 ∧ (v.setP k x).n1 = v.n1 := by
      match k, hk with
      | 0, _ => exact ⟨rfl, rfl, rfl, rfl⟩
      | 1, _ => exact ⟨rfl, rfl, rfl, rfl⟩
      | 2, _ => exact ⟨rfl, rfl, rfl, rfl⟩
    rw [e.1, e.2.1, e.2.2.1, e.2.2.2]
    by_cases h1 : i < 2
    · rw [if_pos h1, if_pos h1]
    · rw [if_neg h1, if_neg h1]
      by_cases h2 : i < 26
      · rw [if_pos h2, if_pos h2]
      · rw [if_neg h2, if_neg h2, if_pos h50, if_pos h50]
  · by_cases h59 : i < 59
    · obtain ⟨m, j, hm, hj, rfl⟩ : ∃ m j, m < 3 ∧ j < 3 ∧ i = 50 + m * 3 + j := ⟨(i - 50) / 3, (i - 50) % 3, by omega, by omega, by omega⟩
      have hne : m ≠ k := by omega
      have e : (v.setP k x).p m = v.p m := by
        match k, hk, m, hm with
        | 0, _, 0, _ => exact absurd rfl hne
        | 0, _, 1, _ => rfl
        | 0, _, 2, _ => rfl
        | 1, _, 0, _ => rfl
        | 1, _, 1, _ => exact absurd rfl hne
        | 1, _, 2, _ => rfl
        | 2, _, 0, _ => rfl
        | 2, _, 1, _ => rfl
        | 2, _, 2, _ => exact absurd rfl hne
      rw [Wy.ptrAt _ m hm j hj, Wy.ptrAt _ m hm j hj, e]
    · rw [List.getElem?_eq_none (by rw [Wy.cs_len]; omega), List.getElem?_eq_none (by rw [Wy.cs_len]; omega)]
theorem Blk.wyPSet (h : Blk w g t v.cs.toArray) (k : Nat) (hk : k < 3) (q : PtrV) : Blk (w.setCells g (50 + k * 3) [.int .i64 q.1, .int .u64 q.2.1, .int .u32 q.2.2]) g t (v.setP k q).cs.toArray := by
  refine h.setTo _ _ (by rw [List.size_toArray, Wy.cs_len]; simp; omega) (Wy.eq_of _ _ 3 _ rfl (fun i hi => ?_) fun i hi => ?_)
  · rw [Wy.ptrAt _ k hk i hi, Wy.setP_p]
  · rw [List.getElem?_toArray]
    exact v.setP_out k hk q i hi
end
end
section
open Go.RowKit

/-- Eight pointers, a way, stored in a block of their own. -/
theorem st_p8c {ops : Array Oper} {rest : List Oper} {o : Oper} {a : Act} {w : World} {Q : Exit → Act → World → Prop} (hgd : o.guard = none) (x y : Operand) (ho : o.op = .store 67 x y)
    (b : Nat) (t : TypeId) (u v : P8) (hx : a.eval x = .pointer (some ⟨b, 0, none⟩)) (hy : a.eval y = .agg v.cs.toArray) (hb : Blk w b t u.cs.toArray)
    (h : ∀ w', Blk w' b t v.cs.toArray → Chg w w' (· = b) → wpList Try.prog ops Q rest (a.put o.dst undef) w') : wpList Try.prog ops Q (o :: rest) a w := by
  refine st_p8 hgd x y ho b 0 v hx hy hb.p8Has fun w' hw => ?_
  rw [hw.out]
  exact h _ (hb.p8All v) (Chg.setCells (O := (· = b)) (.inl rfl) _ _ (Chg.refl _ _))
theorem st_wyc {ops : Array Oper} {rest : List Oper} {o : Oper} {a : Act} {w : World} {Q : Exit → Act → World → Prop} (hgd : o.guard = none) (x y : Operand) (ho : o.op = .store 71 x y)
    (b : Nat) (t : TypeId) (u v : Wy) (hx : a.eval x = .pointer (some ⟨b, 0, none⟩)) (hy : a.eval y = .agg v.cs.toArray) (hb : Blk w b t u.cs.toArray)
    (h : ∀ w', Blk w' b t v.cs.toArray → Chg w w' (· = b) → wpList Try.prog ops Q rest (a.put o.dst undef) w') : wpList Try.prog ops Q (o :: rest) a w := by
  refine st_wy hgd x y ho b 0 v hx hy hb.wyHas fun w' hw => ?_
  rw [hw.out]
  exact h _ (hb.wyAll v) (Chg.setCells (O := (· = b)) (.inl rfl) _ _ (Chg.refl _ _))
theorem ret_p8 {w : World} {g : Nat} {t : TypeId} {x : P8} {fn : Func} {p u : Tmp} {tmps : Array Value} (hf : fn.results = #[.cell p 67, .tmp u]) (hB : Blk w g t x.cs.toArray) (hp : tmps.getD p undef = .pointer (some ⟨g, 0, none⟩)) :
    (results fn tmps).run Try.prog w = .ok (.tuple #[.agg x.cs.toArray, tmps.getD u undef]) w :=
  results_row_tmp hf tmps w g _ _ (0, 0) _ hp hB Try.underlying67 rfl (sizeP8'' x)
theorem ret_wy {w : World} {g : Nat} {t : TypeId} {x : Wy} {fn : Func} {p u : Tmp} {tmps : Array Value} (hf : fn.results = #[.cell p 71, .tmp u]) (hB : Blk w g t x.cs.toArray) (hp : tmps.getD p undef = .pointer (some ⟨g, 0, none⟩)) :
    (results fn tmps).run Try.prog w = .ok (.tuple #[.agg x.cs.toArray, tmps.getD u undef]) w :=
  results_row_tmp hf tmps w g _ _ (0, 0) _ hp hB Try.underlying71 rfl (sizeWy'' x)
theorem run_wholeSec (g : Nat) (w : World) :
    (Instr.sliceAt 23 (.pointer (some ⟨g, 0, none⟩)) none none none).run Try.prog w = .ok (.slice (some ⟨g, 0, none⟩) 128 128) w := by
  rw [run_sliceAt_array_all w _ ⟨g, 0, none⟩ (by simp [Program.arrayLen, Program.elem, Try.underlying23]), run_sizeSecE]
  simp only [Result.andThen_ok, slicedAt, arrLenSec, Nat.zero_mul]
  rw [if_neg (by omega), addr_flat, Nat.zero_add]
theorem thas_any (i : Int) (w : World) : Calls Try.prog 25 #[.int .i64 i] w fun e w' => e = .returned (.bool (decide (0 ≤ i ∧ i < 64))) ∧ Below w.heap.size w w' := by
  by_cases h1 : 0 ≤ i
  · by_cases h2 : i < 64
    · have hd : decide (0 ≤ i ∧ i < 64) = true := by simp [h1, h2]
      rw [hd]
      go_enter Try.func25, Try.ntmps25
      go_wp2_with fail
      go_ret
      exact ⟨rfl, Below.refl _ _⟩
    · have hd : decide (0 ≤ i ∧ i < 64) = false := by simp; omega
      rw [hd]
      go_enter Try.func25, Try.ntmps25
      go_wp2_with fail
      go_ret
      exact ⟨rfl, Below.refl _ _⟩
  · have hd : decide (0 ≤ i ∧ i < 64) = false := by simp; omega
    rw [hd]
    go_enter Try.func25, Try.ntmps25
    go_wp2_with fail
    go_ret
    exact ⟨rfl, Below.refl _ _⟩
theorem thole_any (a b s : Int) (w : World) :
    Calls Try.prog 32 #[ptv a b s] w fun e w' => e = .returned (.bool (holeF a b s)) ∧ Below w.heap.size w w' := by
  have hq := fun w => run_eqP a b s 0 0 0 w
  go_enter Try.func32, Try.ntmps32
  go_wp2_with fail
  go_ret
  exact ⟨ret_bool rfl, (Below.refl _ _).alloc (by omega) _⟩
theorem steps_any (i : Nat) (hi : i < 64) (w : World) :
    Calls Try.prog 42 #[.int .i64 (i : Int)] w fun e w' => e = .returned (.agg #[.int .i64 ((i / 8 : Nat) : Int), .int .i64 ((i % 8 : Nat) : Int)]) ∧ Below w.heap.size w w' := by
  go_enter Try.func42, Try.ntmps42
  go_wp2_with fail
  refine bodyPost_ret (results_cell_row rfl _ _ _ _ _ _ _ rfl (Blk.new w _ _) Try.underlying66 rfl sizeI2) rfl ⟨?_, (Below.refl _ _).alloc (by omega) _⟩
  rw [Int.natCast_ediv, Int.natCast_emod]
  rfl
theorem block_any (v : Wy) (w : World) :
    Calls Try.prog 28 #[.agg v.cs.toArray] w fun e w' => e = .returned (ptq v.p2) ∧ Below w.heap.size w w' := by
  obtain ⟨W, hW⟩ : ∃ W, W = ((w.alloc (.cells v.cs.toArray 71)).alloc (.cells (pcs 0 0 0) 32)) := ⟨_, rfl⟩
  have hb0 : Below w.heap.size w (w.alloc (.cells v.cs.toArray 71)) := (Below.refl _ _).alloc (Nat.le_refl _) _
  have hb1 : Below w.heap.size w W := by rw [hW]; exact hb0.alloc hb0.size _
  have hbv : Blk W w.heap.size 71 v.cs.toArray := by rw [hW]; exact (Blk.new w _ _).below (B := w.heap.size + 1) ((Below.refl _ _).alloc (by simp) _) (by omega)
  have hbq : Blk W (w.heap.size + 1) 32 (pcs 0 0 0) := by
    rw [hW]
    have := Blk.new (w.alloc (.cells v.cs.toArray 71)) 32 (pcs 0 0 0)
    rwa [show (w.alloc (.cells v.cs.toArray 71)).heap.size = w.heap.size + 1 by simp] at this
  have h56 : W.rangeAt w.heap.size 56 [.int .i64 v.p2.1, .int .u64 v.p2.2.1, .int .u32 v.p2.2.2] := hbv.wyPtr 2 (by omega)
  have HB1 := Lib.hid hb1
  have HQ := Lib.hid hbq
  clear hb0 hb1 hbv hbq
  go_enter Try.func28, Try.ntmps28
  go_upto_region 1 with (fail)
  rw [← hW]
  clear hW
  go_wp2_with (first
    | (with_reducible refine ld_pq rfl (.tmp 4) rfl w.heap.size 56 v.p2 rfl h56 ?_)
    | (refine st_pt2 rfl (.tmp 2) (.tmp 5) rfl (w.heap.size + 1) _ v.p2.1 v.p2.2.1 v.p2.2.2 rfl rfl HQ.out rfl ?_; intro w4 hB4 hk4))
  have hlt := HQ.out.lt
  refine bodyPost_ret (results_cell_row rfl _ _ _ _ _ _ _ rfl hB4 Try.underlying32 rfl ptr_size) rfl ⟨rfl, ?_⟩
  exact HB1.out.trans ((hk4 (· = w.heap.size + 1) rfl).below (fun k hk => by subst hk; omega) (by omega))
end
section
open Go.RowKit

section
variable {w w' : World} {O O2 : Nat → Prop} {g : Nat} {P : Pw}
theorem PileAt.foot (h : PileAt w O g P) (k : Nat) (hk : O k) : k < w.heap.size := by
  obtain ⟨B, D, pv, gm, s, hp, hO⟩ := h.ex
  exact hp.lt k ((hO k).1 hk)
theorem PileAt.stay (h : PileAt w O g P) (c : Chg w w' O2) (hn : ∀ k, O k → ¬ O2 k) : PileAt w' O g P := by
  obtain ⟨B, D, pv, gm, s, hp, hO⟩ := h.ex
  exact ⟨B, D, pv, gm, s, hp.stay c fun k hk => hn k ((hO k).2 hk), hO⟩
theorem PileAt.far (h : PileAt w O g P) (hb : Below w.heap.size w w') : PileAt w' O g P := h.stay (Chg.of_below (O := fun _ => False) hb) fun _ _ => id
theorem pileGet (h : PileAt w O g P) (q : PtrV) : Calls Try.prog 27 #[.pointer (some ⟨g, 0, none⟩), ptq q] w fun e w' => ∃ O', e = .returned (.tuple #[.agg (getS P q).1.cs.toArray, .int .i64 (getS P q).2]) ∧ PileAt w' O' g P ∧ Step w w' O O' := by
  obtain ⟨B, D, pv, gm, s, hp, hO⟩ := h.ex
  obtain ⟨a, b, c⟩ := q
  exact (pget_any hp hO a b c).mono fun e w' ⟨s', e1, e2, e3⟩ => ⟨_, e1, ⟨B, D, pv, gm, s', e2, hO⟩, e3⟩
theorem pilePut (A : Option Addr) (c : Nat) (l : List UInt8) (h : PileAt w O g P) (hr : RdA w O A (bys l)) (hl : l.length ≤ 140737488355328) (hN : P.N ≤ 1000000) :
    Calls Try.prog 35 #[.pointer (some ⟨g, 0, none⟩), .slice A l.length c] w fun e w' => ∃ O', e = .returned (.tuple #[ptq (putQ P l), .int .i64 (putC P l)]) ∧ PileAt w' O' g (putP P l) ∧ Step w w' O O' := by
  obtain ⟨B, D, pv, gm, s, hp, hO⟩ := h.ex
  exact (pput_any hp hO A c l hr hl hN).mono fun e w' ⟨pv', s', e1, e2, e3⟩ => ⟨_, e1, ⟨B, D, pv', gm, s', e2, fun _ => Iff.rfl⟩, e3⟩
end
/-- A pile since the world w0, when it lay in O0; a block of a call's own, made since. -/
structure Sta (w0 : World) (O0 : Nat → Prop) (w : World) (O : Nat → Prop) (g : Nat) (P : Pw) : Prop where
  at_ : PileAt w O g P
  st : Step w0 w O0 O
structure Bx (w0 w : World) (O : Nat → Prop) (b : Nat) (t : TypeId) (cs : Array Value) : Prop where
  blk : Blk w b t cs
  far : ¬ O b
  lo : w0.heap.size ≤ b
section
variable {w0 w w' : World} {O0 O O' : Nat → Prop} {g b b' : Nat} {t t' : TypeId} {cs cs' : Array Value} {P P' : Pw}
theorem Sta.first (h : PileAt w O g P) : Sta w O w O g P := ⟨h, step_refl w O⟩
theorem Sta.size (h : Sta w0 O0 w O g P) : w0.heap.size ≤ w.heap.size := h.st.chg.size
theorem Sta.call (h : Sta w0 O0 w O g P) (hp : PileAt w' O' g P') (s : Step w w' O O') : Sta w0 O0 w' O' g P' := ⟨hp, h.st.trans s⟩
theorem Sta.far (h : Sta w0 O0 w O g P) (hb : Below w.heap.size w w') : Sta w0 O0 w' O g P := ⟨h.at_.far hb, h.st.trans (step_below hb)⟩
theorem Sta.alloc (h : Sta w0 O0 w O g P) (o : Obj) : Sta w0 O0 (w.alloc o) O g P := h.far ((Below.refl _ _).alloc (Nat.le_refl _) _)
theorem Sta.drew (h : Sta w0 O0 w O g P) : Sta w0 O0 w.drew O g P := h.far (Below.refl _ _).drew
theorem Sta.aside (h : Sta w0 O0 w O g P) (hB : Bx w0 w O b t cs) (c : Chg w w' (· = b)) : Sta w0 O0 w' O g P :=
  ⟨h.at_.stay c fun k hk e => hB.far (e ▸ hk), ⟨h.st.chg.trans c fun k hk e => absurd hB.lo (by omega), h.st.new⟩⟩
theorem Bx.new (h : Sta w0 O0 w O g P) (t : TypeId) (cs : Array Value) : Bx w0 (w.alloc (.cells cs t)) O w.heap.size t cs :=
  ⟨Blk.new w t cs, fun hk => by have := h.at_.foot _ hk; omega, h.size⟩
theorem Bx.lt (h : Bx w0 w O b t cs) : b < w.heap.size := h.blk.lt
theorem Bx.step (h : Bx w0 w O b t cs) (s : Step w w' O O') : Bx w0 w' O' b t cs :=
  ⟨h.blk.chg s.chg h.far, fun ho => (s.new b ho).elim h.far fun hs => by have := h.blk.lt; omega, h.lo⟩
theorem Bx.later (h : Bx w0 w O b t cs) (hb : Below w.heap.size w w') : Bx w0 w' O b t cs := ⟨h.blk.below hb h.blk.lt, h.far, h.lo⟩
theorem Bx.alloc (h : Bx w0 w O b t cs) (o : Obj) : Bx w0 (w.alloc o) O b t cs := h.later ((Below.refl _ _).alloc (Nat.le_refl _) _)
theorem Bx.drew (h : Bx w0 w O b t cs) : Bx w0 w.drew O b t cs := h.later (Below.refl _ _).drew
theorem Bx.aside (h : Bx w0 w O b t cs) (c : Chg w w' (· = b')) (hn : b ≠ b') : Bx w0 w' O b t cs := ⟨h.blk.chg c hn, h.far, h.lo⟩
theorem Bx.put (h : Bx w0 w O b t cs) (k : Blk w' b t cs') : Bx w0 w' O b t cs' := ⟨k, h.far, h.lo⟩
theorem Bx.rd {l : List Value} (h : Bx w0 w O b t l.toArray) : RdA w O (some ⟨b, 0, none⟩) l :=
  ⟨fun _ => ⟨b, 0, rfl, h.lt, fun j v hv => by rw [Nat.zero_add, h.blk.cell j, List.getElem?_toArray]; exact hv⟩, fun b' off e _ => by
    simp only [Option.some.injEq, Addr.mk.injEq] at e
    obtain ⟨rfl, _⟩ := e
    exact h.far⟩
/-- Two blocks made one behind another. -/
theorem two_new (h : Sta w0 O0 w O g P) (t t' : TypeId) (cs cs' : Array Value) : ∃ W, W = (w.alloc (.cells cs t)).alloc (.cells cs' t') ∧ Sta w0 O0 W O g P ∧ Bx w0 W O w.heap.size t cs ∧ Bx w0 W O (w.heap.size + 1) t' cs' := by
  have h1 := h.alloc (.cells cs t)
  have h2 := Bx.new h1 t' cs'
  have e : (w.alloc (.cells cs t)).heap.size = w.heap.size + 1 := by simp
  rw [e] at h2
  exact ⟨_, rfl, h1.alloc _, (Bx.new h t cs).alloc _, h2⟩
end
section
variable {w0 w : World} {O0 O : Nat → Prop} {g : Nat} {P : Pw}
set_option maxHeartbeats 1000000 in
theorem had_any (h : PileAt w O g P) (q : PtrV) (x : Sec) (hx : getS P q = (x, 0)) (hc : nrC x = 0) :
    Calls Try.prog 43 #[.pointer (some ⟨g, 0, none⟩), ptq q] w fun e w' => ∃ O', e = .returned (.tuple #[.agg (nrP x).cs.toArray, .int .i64 0]) ∧ PileAt w' O' g P ∧ Step w w' O O' := by
  obtain ⟨W, hW, hs, hq, hr⟩ := two_new (Sta.first h) 32 67 (pcs q.1 q.2.1 q.2.2) zp8.cs.toArray
  have HA := Lib.hid (And.intro hs (And.intro hq hr))
  have HG := pileGet hs.at_ q
  rw [hx] at HG
  have HG := Lib.hid HG
  have HN := Lib.hid (fun w => nnread_any x w)
  rw [hc] at HN
  have hz : ∀ w, Sem.run Try.prog (zeroValue 67) w = .ok (.agg zp8.cs.toArray) w := zeroP8
  have hzs : ∀ w, Sem.run Try.prog (zeroValue 23) w = .ok (.agg zsec.cs.toArray) w := zeroSec
  clear h hx hc hs hq hr
  go_enter Try.func43, Try.ntmps43
  go_upto_region 1 with (fail)
  rw [← hW]
  clear hW
  go_wp2_with (refine ld_ptr rfl (.tmp 3) rfl w.heap.size 32 q.1 q.2.1 q.2.2 rfl HA.out.2.1.blk ?_)
  refine Calls.mono HG.out ?_
  rintro e w2 ⟨O2, rfl, hp2, hs2⟩
  have ha2 := HA.out.1.call hp2 hs2
  have hr2 := HA.out.2.2.step hs2
  have HB := Lib.hid (And.intro (Bx.new ha2 23 zsec.cs.toArray) (And.intro (ha2.alloc (.cells zsec.cs.toArray 23)) (And.intro (hr2.alloc (.cells zsec.cs.toArray 23)) hr2.lt)))
  clear HG HA ha2 hr2 hp2 hs2
  go_wp2_with (first
    | (refine st_sec2 rfl (.tmp 6) (.tmp 13) rfl w2.heap.size _ x rfl rfl HB.out.1.blk ?_; intro w3 hB3 hc3)
    | (with_reducible refine ld_sec rfl (.tmp 6) rfl w2.heap.size 0 x rfl hB3.secIs ?_))
  refine Calls.mono (HN.out _) ?_
  rintro e w4 ⟨rfl, hb4⟩
  have hl2 := HB.out.2.2.2
  have ha4 := (HB.out.2.1.aside HB.out.1 hc3).far hb4
  have hr4 := (HB.out.2.2.1.aside hc3 (by omega)).later hb4
  have HC := Lib.hid (And.intro (Bx.new ha4 67 zp8.cs.toArray) (And.intro (ha4.alloc (.cells zp8.cs.toArray 67)) (And.intro (hr4.alloc (.cells zp8.cs.toArray 67)) hr4.lt)))
  clear HB HN hB3 hc3 hb4 hl2 ha4 hr4
  go_wp2_with (first
    | (refine st_p8c rfl (.tmp 8) (.tmp 22) rfl w4.heap.size _ _ (nrP x) rfl rfl HC.out.1.blk ?_; intro w6 hB6 hc6)
    | (with_reducible refine ld_p8 rfl (.tmp 8) rfl w4.heap.size 0 (nrP x) rfl hB6.p8Is ?_)
    | (refine st_p8c rfl (.tmp 4) (.tmp 27) rfl (w.heap.size + 1) _ _ (nrP x) rfl rfl (HC.out.2.2.1.aside hc6 (by have := HC.out.2.2.2; omega)).blk ?_; intro w7 hB7 hc7))
  have hl4 := HC.out.2.2.2
  have ha6 := HC.out.2.1.aside HC.out.1 hc6
  have hr6 := HC.out.2.2.1.aside hc6 (by omega)
  have ha7 := ha6.aside hr6 hc7
  exact bodyPost_ret (ret_p8 rfl hB7 rfl) rfl ⟨O2, rfl, ha7.at_, ha7.st⟩
set_option maxHeartbeats 1000000 in
theorem tput_any (h : PileAt w O g P) (p : P8) (hp : p.ok) (ha : all8 p = true) (hc : emptyF p = false → putC P (nbS p).l = 0) (hN : P.N ≤ 1000000) :
    Calls Try.prog 48 #[.pointer (some ⟨g, 0, none⟩), .agg p.cs.toArray] w fun e w' => ∃ O', e = .returned (.tuple #[ptq (putNQ P p), .int .i64 0]) ∧ PileAt w' O' g (putNP P p) ∧ Step w w' O O' := by
  obtain ⟨W, hW, hs, hq, hr⟩ := two_new (Sta.first h) 67 32 p.cs.toArray (pcs 0 0 0)
  have HA := Lib.hid (And.intro hs (And.intro hq hr))
  have HE := Lib.hid (fun w => nempty_any p w)
  have hz : ∀ w, Sem.run Try.prog (zeroValue 32) w = .ok (ptv 0 0 0) w := zeroPtr8
  have hzs : ∀ w, Sem.run Try.prog (zeroValue 23) w = .ok (.agg zsec.cs.toArray) w := zeroSec
  have hsl : ∀ g w, (Instr.sliceAt 23 (.pointer (some ⟨g, 0, none⟩)) none none none).run Try.prog w = .ok (.slice (some ⟨g, 0, none⟩) 128 128) w := run_wholeSec
  cases he : emptyF p with
  | true =>
    have e1 : putNQ P p = hole0 := if_pos he
    have e2 : putNP P p = P := if_pos he
    rw [e1, e2]
    rw [he] at HE
    clear h hs hq hr he e1 e2 hc
    go_enter Try.func48, Try.ntmps48
    go_upto_region 1 with (fail)
    rw [← hW]
    clear hW
    go_wp2_with (with_reducible refine ld_p8 rfl (.tmp 3) rfl w.heap.size 0 p rfl HA.out.2.1.blk.p8Is ?_)
    refine Calls.mono (HE.out _) ?_
    rintro e w2 ⟨rfl, hb2⟩
    have HB := Lib.hid (And.intro (HA.out.1.far hb2) (HA.out.2.2.later hb2))
    clear HA HE hb2
    go_wp2_with (refine st_pt2 rfl (.tmp 4) (.tmp 10) rfl (w.heap.size + 1) _ 0 0 0 rfl rfl HB.out.2.blk rfl ?_; intro w4 hB4 hk4)
    have ha4 := HB.out.1.aside HB.out.2 (hk4 _ rfl)
    exact bodyPost_ret (ret_ptr rfl hB4 rfl) rfl ⟨O, rfl, ha4.at_, ha4.st⟩
  | false =>
    have e1 : putNQ P p = putQ P (nbS p).l := if_neg (by rw [he]; decide)
    have e2 : putNP P p = putP P (nbS p).l := if_neg (by rw [he]; decide)
    rw [e1, e2]
    rw [he] at HE
    have HN := Lib.hid (fun w => nnbytes_any p hp w)
    rw [nbC_iff.2 ha] at HN
    have hc' := hc he
    have HC := Lib.hid hc'
    clear h hs hq hr he e1 e2 hc hc' ha hp
    go_enter Try.func48, Try.ntmps48
    go_upto_region 1 with (fail)
    rw [← hW]
    clear hW
    go_wp2_with (with_reducible refine ld_p8 rfl (.tmp 3) rfl w.heap.size 0 p rfl HA.out.2.1.blk.p8Is ?_)
    refine Calls.mono (HE.out _) ?_
    rintro e w2 ⟨rfl, hb2⟩
    have HB := Lib.hid (And.intro (HA.out.1.far hb2) (And.intro (HA.out.2.2.later hb2) (HA.out.2.1.later hb2)))
    clear HA HE hb2
    go_wp2_with (with_reducible refine ld_p8 rfl (.tmp 3) rfl w.heap.size 0 p rfl HB.out.2.2.blk.p8Is ?_)
    refine Calls.mono (HN.out _) ?_
    rintro e w3 ⟨rfl, hb3⟩
    have ha3 := HB.out.1.far hb3
    have hr3 := HB.out.2.1.later hb3
    have HD := Lib.hid (And.intro (Bx.new ha3 23 zsec.cs.toArray) (And.intro (ha3.alloc (.cells zsec.cs.toArray 23)) (And.intro (hr3.alloc (.cells zsec.cs.toArray 23)) hr3.lt)))
    clear HB HN hb3 ha3 hr3
    go_wp2_with (refine st_sec2 rfl (.tmp 6) (.tmp 14) rfl w3.heap.size _ (nbS p) rfl rfl HD.out.1.blk ?_; intro w4 hB4 hc4)
    have hl3 := HD.out.2.2.2
    have ha4 := HD.out.2.1.aside HD.out.1 hc4
    have hr4 := HD.out.2.2.1.aside hc4 (by omega)
    have HP := pilePut (some ⟨w3.heap.size, 0, none⟩) 128 (nbS p).l ha4.at_ (HD.out.1.put hB4).rd (by rw [(nbS p).h]; omega) hN
    rw [(nbS p).h, HC.out] at HP
    have HP := Lib.hid HP
    have HE := Lib.hid (And.intro ha4 hr4)
    clear ha4 hr4 hl3 hc4 hB4 HD HC
    refine Calls.mono HP.out ?_
    rintro e w5 ⟨O5, rfl, hp5, hs5⟩
    have ha5 := HE.out.1.call hp5 hs5
    have hr5 := HE.out.2.step hs5
    clear HP HE hp5 hs5
    go_wp2_with (refine st_pt2 rfl (.tmp 4) (.tmp 23) rfl (w.heap.size + 1) _ (putQ P (nbS p).l).1 (putQ P (nbS p).l).2.1 (putQ P (nbS p).l).2.2 rfl rfl hr5.blk rfl ?_; intro w6 hB6 hk6)
    have ha6 := ha5.aside hr5 (hk6 _ rfl)
    exact bodyPost_ret (ret_ptr rfl hB6 rfl) rfl ⟨O5, rfl, ha6.at_, ha6.st⟩
end
end
section
open Go.RowKit

def nonH (q : PtrV) : Bool := !holeF q.1 q.2.1 q.2.2
def outL (v : Wy) (k : Nat) : List PtrV := ([v.p2, v.p1, v.p0].take k).filter nonH
theorem outL_len (v : Wy) (k : Nat) : (outL v k).length ≤ 3 := Nat.le_trans (List.length_filter_le _ _) (by rw [List.length_take]; simp; omega)
theorem outL_at (v : Wy) (k : Nat) (q : PtrV) (h : [v.p2, v.p1, v.p0][k]? = some q) : outL v (k + 1) = outL v k ++ if nonH q = true then [q] else [] := by
  unfold outL
  rw [List.take_add_one, h, List.filter_append]
  congr 1
  show [q].filter nonH = _
  cases hq : nonH q <;> simp [hq]
theorem ownq_lt {w : World} {base : Nat} {v : Value} {l : List PtrV} (h : OwnQ w base v l) : ∀ g, v.ownBlock = some g → g < w.heap.size := fun g hg => by
  rcases h.2 with ⟨h0, _⟩ | ⟨g', cap, cur, rfl, hbg, hg', _⟩
  · rw [h0] at hg
    cases hg
  · have e : g' = g := by simpa [Value.ownBlock] using hg
    subst e
    exact (Array.getElem?_eq_some_iff.1 hg').1
theorem chg_box {W w4 w5 : World} {b : Nat} (hk : Chg W w4 (· = b)) (hb : Below w4.heap.size w4 w5) : Chg W w5 (· = b) := hk.trans (Chg.of_below (O := fun _ => False) hb) fun _ _ => False.elim
set_option maxHeartbeats 2000000 in
theorem replaced_any (v : Wy) (w : World) :
    Calls Try.prog 49 #[.agg v.cs.toArray] w fun e w' => ∃ u, e = .returned u ∧ OwnQ w' w.heap.size u (outL v 3) ∧ Below w.heap.size w w' := by
  obtain ⟨W, hW⟩ : ∃ W, W = w.alloc (.cells v.cs.toArray 71) := ⟨_, rfl⟩
  obtain ⟨B, hB⟩ : ∃ B, B = W.heap.size := ⟨_, rfl⟩
  have hbv : Blk W w.heap.size 71 v.cs.toArray := by rw [hW]; exact Blk.new _ _ _
  have hb0 : Below w.heap.size w W := by rw [hW]; exact (Below.refl _ _).alloc (Nat.le_refl _) _
  have H0 := Lib.hid (And.intro hbv hb0)
  have HW : Hid (w.heap.size < B ∧ B = W.heap.size) := Lib.hid ⟨by rw [hB]; exact hbv.lt, hB⟩
  have hz : ∀ w, Sem.run Try.prog (zeroValue 32) w = .ok (ptv 0 0 0) w := zeroPtr8
  clear hbv hb0 hB
  go_enter Try.func49, Try.ntmps49
  go_wp2_with fail
  rw [← hW]
  clear hW
  go_loopw [3, 4] (fun r i wr => ∃ k : Nat, k ≤ 3 ∧ i = .int .i64 (2 - (k : Int)) ∧ Below B W wr ∧ OwnQ wr B r (outL v k)) (fun _ i _ => (3 + intOf i).toNat)
  case atStart => exact ⟨0, by omega, rfl, by rw [HW.out.2]; exact Below.refl _ _, World.ownsRow_nil _ _ _ _⟩
  case round =>
    obtain ⟨k, hk, rfl, hb, ho⟩ := hrel
    have hbv : Blk wr w.heap.size 71 v.cs.toArray := H0.out.1.below hb HW.out.1
    have hsz0 : B ≤ wr.heap.size := by rw [HW.out.2] at hb ⊢; exact hb.size
    rcases (show k = 0 ∨ k = 1 ∨ k = 2 ∨ k = 3 by omega) with rfl | rfl | rfl | rfl
    · rw [show (2 - ((0 : Nat) : Int)) = 2 from rfl]
      have hq : wr.rangeAt w.heap.size 56 [.int .i64 v.p2.1, .int .u64 v.p2.2.1, .int .u32 v.p2.2.2] := hbv.wyPtr 2 (by omega)
      have HL := Lib.hid (outL_at v 0 v.p2 rfl)
      have HH := Lib.hid (thole_any v.p2.1 v.p2.2.1 v.p2.2.2)
      have HB := Lib.hid (And.intro (hb.alloc hsz0 (.cells (pcs 0 0 0) 32)) (And.intro (World.ownsRow.alloc ho (.cells (pcs 0 0 0) 32)) (Blk.new wr 32 (pcs 0 0 0))))
      have hf := ownq_lt ho
      clear hbv hb ho
      cases hn : holeF v.p2.1 v.p2.2.1 v.p2.2.2 with
      | true =>
        rw [hn] at HH
        rw [show nonH v.p2 = false by unfold nonH; rw [hn]; rfl] at HL
        go_wp2_with (first
          | (with_reducible refine ld_pq rfl _ rfl w.heap.size 56 v.p2 rfl hq ?_)
          | (refine st_pt2 rfl (.tmp 5) (.tmp 13) rfl wr.heap.size _ v.p2.1 v.p2.2.1 v.p2.2.2 rfl rfl HB.out.2.2 rfl ?_; intro w4 hB4 hk4)
          | (with_reducible refine ld_ptr rfl (.tmp 5) rfl wr.heap.size 32 v.p2.1 v.p2.2.1 v.p2.2.2 rfl hB4 ?_))
        refine Calls.mono (HH.out _) ?_
        rintro e w5 ⟨rfl, hb5⟩
        have hc5 := chg_box (hk4 (· = wr.heap.size) rfl) hb5
        have hb6 := HB.out.1.trans (hc5.below (fun k hk => by omega) (Nat.le_trans (Nat.le_of_eq HW.out.2) HB.out.1.size))
        have ho6 := own_chg HB.out.2.1 hc5 fun g hg => by have := hf g hg; omega
        have HC := Lib.hid (And.intro hb6 ho6)
        clear HB hb5 hc5 hk4 hB4 hq HH hf hn hb6 ho6
        go_wp2_with fail
        go_roundw
        case rel => exact ⟨1, by omega, rfl, HC.out.1, by rw [HL.out, if_neg (by decide), List.append_nil]; exact HC.out.2⟩
        case measure => simp [intOf]
      | false =>
        rw [hn] at HH
        rw [show nonH v.p2 = true by unfold nonH; rw [hn]; rfl] at HL
        go_wp2_with (first
          | (with_reducible refine ld_pq rfl _ rfl w.heap.size 56 v.p2 rfl hq ?_)
          | (refine st_pt2 rfl (.tmp 5) (.tmp 13) rfl wr.heap.size _ v.p2.1 v.p2.2.1 v.p2.2.2 rfl rfl HB.out.2.2 rfl ?_; intro w4 hB4 hk4)
          | (with_reducible refine ld_ptr rfl (.tmp 5) rfl wr.heap.size 32 v.p2.1 v.p2.2.1 v.p2.2.2 rfl hB4 ?_))
        refine Calls.mono (HH.out _) ?_
        rintro e w5 ⟨rfl, hb5⟩
        have hc5 := chg_box (hk4 (· = wr.heap.size) rfl) hb5
        have hb6 := HB.out.1.trans (hc5.below (fun k hk => by omega) (Nat.le_trans (Nat.le_of_eq HW.out.2) HB.out.1.size))
        have ho6 := own_chg HB.out.2.1 hc5 fun g hg => by have := hf g hg; omega
        have HC := Lib.hid (And.intro hb6 (And.intro ho6 (hB4.below hb5 hB4.lt)))
        have hsz : B ≤ w5.heap.size := by have := HW.out.2; rw [this]; exact hb6.size
        clear HB hb5 hc5 hk4 hB4 hq HH hf hn hb6 ho6
        have hown : OwnQ w5 B u3 (outL v 0) := HC.out.2.1
        go_wp2_with (first
          | (with_reducible refine ld_ptr rfl (.tmp 5) rfl wr.heap.size 32 v.p2.1 v.p2.2.1 v.p2.2.2 rfl HC.out.2.2 ?_)
          | (at_builtin; refine app_ptr rfl 17 19 rfl B u3 (outL v 0) rfl hown v.p2 w5.heap.size rfl rfl hsz (Nat.le_trans (outL_len v 0) (by omega)) ?_; intro v6 w6 ho6 hg6 _))
        go_roundw
        case rel => exact ⟨1, by omega, rfl, below_own (HC.out.1.alloc hsz _) (World.ownsRow.alloc HC.out.2.1 _) (Nat.le_refl _) (by simp; omega) hg6, by rw [HL.out, if_pos trivial]; exact ho6⟩
        case measure => simp [intOf]
    · rw [show (2 - ((1 : Nat) : Int)) = 1 from rfl]
      have hq : wr.rangeAt w.heap.size 53 [.int .i64 v.p1.1, .int .u64 v.p1.2.1, .int .u32 v.p1.2.2] := hbv.wyPtr 1 (by omega)
      have HL := Lib.hid (outL_at v 1 v.p1 rfl)
      have HH := Lib.hid (thole_any v.p1.1 v.p1.2.1 v.p1.2.2)
      have HB := Lib.hid (And.intro (hb.alloc hsz0 (.cells (pcs 0 0 0) 32)) (And.intro (World.ownsRow.alloc ho (.cells (pcs 0 0 0) 32)) (Blk.new wr 32 (pcs 0 0 0))))
      have hf := ownq_lt ho
      clear hbv hb ho
      cases hn : holeF v.p1.1 v.p1.2.1 v.p1.2.2 with
      | true =>
        rw [hn] at HH
        rw [show nonH v.p1 = false by unfold nonH; rw [hn]; rfl] at HL
        go_wp2_with (first
          | (with_reducible refine ld_pq rfl _ rfl w.heap.size 53 v.p1 rfl hq ?_)
          | (refine st_pt2 rfl (.tmp 5) (.tmp 13) rfl wr.heap.size _ v.p1.1 v.p1.2.1 v.p1.2.2 rfl rfl HB.out.2.2 rfl ?_; intro w4 hB4 hk4)
          | (with_reducible refine ld_ptr rfl (.tmp 5) rfl wr.heap.size 32 v.p1.1 v.p1.2.1 v.p1.2.2 rfl hB4 ?_))
        refine Calls.mono (HH.out _) ?_
        rintro e w5 ⟨rfl, hb5⟩
        have hc5 := chg_box (hk4 (· = wr.heap.size) rfl) hb5
        have hb6 := HB.out.1.trans (hc5.below (fun k hk => by omega) (Nat.le_trans (Nat.le_of_eq HW.out.2) HB.out.1.size))
        have ho6 := own_chg HB.out.2.1 hc5 fun g hg => by have := hf g hg; omega
        have HC := Lib.hid (And.intro hb6 ho6)
        clear HB hb5 hc5 hk4 hB4 hq HH hf hn hb6 ho6
        go_wp2_with fail
        go_roundw
        case rel => exact ⟨2, by omega, rfl, HC.out.1, by rw [HL.out, if_neg (by decide), List.append_nil]; exact HC.out.2⟩
        case measure => simp [intOf]
      | false =>
        rw [hn] at HH
        rw [show nonH v.p1 = true by unfold nonH; rw [hn]; rfl] at HL
        go_wp2_with (first
          | (with_reducible refine ld_pq rfl _ rfl w.heap.size 53 v.p1 rfl hq ?_)
          | (refine st_pt2 rfl (.tmp 5) (.tmp 13) rfl wr.heap.size _ v.p1.1 v.p1.2.1 v.p1.2.2 rfl rfl HB.out.2.2 rfl ?_; intro w4 hB4 hk4)
          | (with_reducible refine ld_ptr rfl (.tmp 5) rfl wr.heap.size 32 v.p1.1 v.p1.2.1 v.p1.2.2 rfl hB4 ?_))
        refine Calls.mono (HH.out _) ?_
        rintro e w5 ⟨rfl, hb5⟩
        have hc5 := chg_box (hk4 (· = wr.heap.size) rfl) hb5
        have hb6 := HB.out.1.trans (hc5.below (fun k hk => by omega) (Nat.le_trans (Nat.le_of_eq HW.out.2) HB.out.1.size))
        have ho6 := own_chg HB.out.2.1 hc5 fun g hg => by have := hf g hg; omega
        have HC := Lib.hid (And.intro hb6 (And.intro ho6 (hB4.below hb5 hB4.lt)))
        have hsz : B ≤ w5.heap.size := by have := HW.out.2; rw [this]; exact hb6.size
        clear HB hb5 hc5 hk4 hB4 hq HH hf hn hb6 ho6
        have hown : OwnQ w5 B u3 (outL v 1) := HC.out.2.1
        go_wp2_with (first
          | (with_reducible refine ld_ptr rfl (.tmp 5) rfl wr.heap.size 32 v.p1.1 v.p1.2.1 v.p1.2.2 rfl HC.out.2.2 ?_)
          | (at_builtin; refine app_ptr rfl 17 19 rfl B u3 (outL v 1) rfl hown v.p1 w5.heap.size rfl rfl hsz (Nat.le_trans (outL_len v 1) (by omega)) ?_; intro v6 w6 ho6 hg6 _))
        go_roundw
        case rel => exact ⟨2, by omega, rfl, below_own (HC.out.1.alloc hsz _) (World.ownsRow.alloc HC.out.2.1 _) (Nat.le_refl _) (by simp; omega) hg6, by rw [HL.out, if_pos trivial]; exact ho6⟩
        case measure => simp [intOf]
    · rw [show (2 - ((2 : Nat) : Int)) = 0 from rfl]
      have hq : wr.rangeAt w.heap.size 50 [.int .i64 v.p0.1, .int .u64 v.p0.2.1, .int .u32 v.p0.2.2] := hbv.wyPtr 0 (by omega)
      have HL := Lib.hid (outL_at v 2 v.p0 rfl)
      have HH := Lib.hid (thole_any v.p0.1 v.p0.2.1 v.p0.2.2)
      have HB := Lib.hid (And.intro (hb.alloc hsz0 (.cells (pcs 0 0 0) 32)) (And.intro (World.ownsRow.alloc ho (.cells (pcs 0 0 0) 32)) (Blk.new wr 32 (pcs 0 0 0))))
      have hf := ownq_lt ho
      clear hbv hb ho
      cases hn : holeF v.p0.1 v.p0.2.1 v.p0.2.2 with
      | true =>
        rw [hn] at HH
        rw [show nonH v.p0 = false by unfold nonH; rw [hn]; rfl] at HL
        go_wp2_with (first
          | (with_reducible refine ld_pq rfl _ rfl w.heap.size 50 v.p0 rfl hq ?_)
          | (refine st_pt2 rfl (.tmp 5) (.tmp 13) rfl wr.heap.size _ v.p0.1 v.p0.2.1 v.p0.2.2 rfl rfl HB.out.2.2 rfl ?_; intro w4 hB4 hk4)
          | (with_reducible refine ld_ptr rfl (.tmp 5) rfl wr.heap.size 32 v.p0.1 v.p0.2.1 v.p0.2.2 rfl hB4 ?_))
        refine Calls.mono (HH.out _) ?_
        rintro e w5 ⟨rfl, hb5⟩
        have hc5 := chg_box (hk4 (· = wr.heap.size) rfl) hb5
        have hb6 := HB.out.1.trans (hc5.below (fun k hk => by omega) (Nat.le_trans (Nat.le_of_eq HW.out.2) HB.out.1.size))
        have ho6 := own_chg HB.out.2.1 hc5 fun g hg => by have := hf g hg; omega
        have HC := Lib.hid (And.intro hb6 ho6)
        clear HB hb5 hc5 hk4 hB4 hq HH hf hn hb6 ho6
        go_wp2_with fail
        go_roundw
        case rel => exact ⟨3, by omega, rfl, HC.out.1, by rw [HL.out, if_neg (by decide), List.append_nil]; exact HC.out.2⟩
        case measure => simp [intOf]
      | false =>
        rw [hn] at HH
        rw [show nonH v.p0 = true by unfold nonH; rw [hn]; rfl] at HL
        go_wp2_with (first
          | (with_reducible refine ld_pq rfl _ rfl w.heap.size 50 v.p0 rfl hq ?_)
          | (refine st_pt2 rfl (.tmp 5) (.tmp 13) rfl wr.heap.size _ v.p0.1 v.p0.2.1 v.p0.2.2 rfl rfl HB.out.2.2 rfl ?_; intro w4 hB4 hk4)
          | (with_reducible refine ld_ptr rfl (.tmp 5) rfl wr.heap.size 32 v.p0.1 v.p0.2.1 v.p0.2.2 rfl hB4 ?_))
        refine Calls.mono (HH.out _) ?_
        rintro e w5 ⟨rfl, hb5⟩
        have hc5 := chg_box (hk4 (· = wr.heap.size) rfl) hb5
        have hb6 := HB.out.1.trans (hc5.below (fun k hk => by omega) (Nat.le_trans (Nat.le_of_eq HW.out.2) HB.out.1.size))
        have ho6 := own_chg HB.out.2.1 hc5 fun g hg => by have := hf g hg; omega
        have HC := Lib.hid (And.intro hb6 (And.intro ho6 (hB4.below hb5 hB4.lt)))
        have hsz : B ≤ w5.heap.size := by have := HW.out.2; rw [this]; exact hb6.size
        clear HB hb5 hc5 hk4 hB4 hq HH hf hn hb6 ho6
        have hown : OwnQ w5 B u3 (outL v 2) := HC.out.2.1
        go_wp2_with (first
          | (with_reducible refine ld_ptr rfl (.tmp 5) rfl wr.heap.size 32 v.p0.1 v.p0.2.1 v.p0.2.2 rfl HC.out.2.2 ?_)
          | (at_builtin; refine app_ptr rfl 17 19 rfl B u3 (outL v 2) rfl hown v.p0 w5.heap.size rfl rfl hsz (Nat.le_trans (outL_len v 2) (by omega)) ?_; intro v6 w6 ho6 hg6 _))
        go_roundw
        case rel => exact ⟨3, by omega, rfl, below_own (HC.out.1.alloc hsz _) (World.ownsRow.alloc HC.out.2.1 _) (Nat.le_refl _) (by simp; omega) hg6, by rw [HL.out, if_pos trivial]; exact ho6⟩
        case measure => simp [intOf]
    · rw [show (2 - ((3 : Nat) : Int)) = -1 from rfl]
      have hb1 := H0.out.2.trans (hb.mono (by have := HW.out.1; omega))
      go_wp2_with fail
      go_ret
      exact ⟨_, rfl, own_base ho (by have := HW.out.1; omega), hb1⟩
end
section
open Go.RowKit

/-- A pointer stored in a node of a way. -/
theorem st_wyq {ops : Array Oper} {rest : List Oper} {o : Oper} {a : Act} {w : World} {Q : Exit → Act → World → Prop} (hgd : o.guard = none) (x y : Operand) (ho : o.op = .store 32 x y)
    (b : Nat) (t : TypeId) (v : Wy) (k : Nat) (hk : k < 2) (j : Nat) (hj : j < 8) (q : PtrV) (m : Nat) (hm : m = 2 + k * 24 + j * 3) (hx : a.eval x = .pointer (some ⟨b, m, none⟩)) (hy : a.eval y = ptq q) (hB : Blk w b t v.cs.toArray)
    (h : ∀ w', Blk w' b t (v.setN k ((v.n k).set j q)).cs.toArray → Chg w w' (· = b) → wpList Try.prog ops Q rest (a.put o.dst undef) w') : wpList Try.prog ops Q (o :: rest) a w := by
  subst hm
  refine wpList_store_mid hgd _ x y ho b _ (pcs q.1 q.2.1 q.2.2) hx hy (hB.wyThereQ k hk j hj) ptr_size (by simp [Value.oneCell']) ?_
  exact h _ (hB.wyQSet k hk j hj q) (Chg.setCells (O := (· = b)) (.inl rfl) _ _ (Chg.refl _ _))
def leftN (v : Wy) : Nat := if emptyF (v.n1.set v.a1 hole0) = true then if emptyF (v.n0.set v.a0 hole0) = true then 0 else 1 else 2
def lw (v : Wy) (k : Nat) : Wy := if k = 0 then v else if k = 1 then v.setN 1 ((v.n 1).set v.a1 hole0) else (v.setN 1 ((v.n 1).set v.a1 hole0)).setN 0 ((v.n 0).set v.a0 hole0)
set_option maxHeartbeats 2000000 in
theorem left_any (v : Wy) (h0 : v.a0 < 8) (h1 : v.a1 < 8) (w : World) :
    Calls Try.prog 33 #[.agg v.cs.toArray] w fun e w' => e = .returned (.int .i64 (leftN v : Int)) ∧ Below w.heap.size w w' := by
  obtain ⟨W, hW⟩ : ∃ W, W = w.alloc (.cells v.cs.toArray 71) := ⟨_, rfl⟩
  have hbv : Blk W w.heap.size 71 v.cs.toArray := by rw [hW]; exact Blk.new _ _ _
  have hb0 : Below w.heap.size w W := by rw [hW]; exact (Below.refl _ _).alloc (Nat.le_refl _) _
  have H0 := Lib.hid (And.intro hbv hb0)
  clear hbv hb0
  go_enter Try.func33, Try.ntmps33
  go_wp2_with fail
  rw [← hW]
  clear hW
  go_loopw [3] (fun i wr => ∃ k : Nat, k ≤ 2 ∧ i = .int .i64 (1 - (k : Int)) ∧ Below w.heap.size w wr ∧ Blk wr w.heap.size 71 (lw v k).cs.toArray ∧ (1 ≤ k → emptyF (v.n1.set v.a1 hole0) = true) ∧ (2 ≤ k → emptyF (v.n0.set v.a0 hole0) = true)) (fun i _ => (2 + intOf i).toNat)
  case atStart => exact ⟨0, by omega, rfl, H0.out.2, H0.out.1, fun h => absurd h (by omega), fun h => absurd h (by omega)⟩
  case round =>
    clear H0
    obtain ⟨k, hk, rfl, hb, hbv, he1, he0⟩ := hrel
    rcases (show k = 0 ∨ k = 1 ∨ k = 2 by omega) with rfl | rfl | rfl
    · rw [show (1 - ((0 : Nat) : Int)) = 1 from rfl]
      have hat : wr.drew.cell? ⟨w.heap.size, 1, none⟩ = some (.int .i64 (v.a1 : Int)) := (hbv.below (Below.refl wr.heap.size wr).drew hbv.lt).wyAt 1 (by omega)
      have ha8 : (v.a1 : Int) < 8 := by omega
      have ha0 : (0 : Int) ≤ (v.a1 : Int) := by omega
      have HB := Lib.hid (And.intro (hbv.below (Below.refl wr.heap.size wr).drew hbv.lt) (And.intro hb.drew (And.intro he1 he0)))
      clear hbv hb he1 he0
      go_wp2_with fail
      go_still_tail 9, (by kernel_rfl)
      change wpList _ _ _ _ _ wr.drew
      generalize wr.drew = w2 at *
      have HE := Lib.hid (nempty_any (v.n1.set v.a1 hole0))
      go_wp2_with (first
        | (refine st_wyq rfl (.tmp 16) (.tmp 13) rfl w.heap.size _ (lw v 0) 1 (by omega) v.a1 h1 hole0 _ (by omega) rfl rfl HB.out.1 ?_; intro w4 hB4 hc4; have hn : w4.rangeAt w.heap.size 26 (v.n1.set v.a1 hole0).cs := hB4.wyNode 1 (by omega))
        | (with_reducible refine ld_p8 rfl _ rfl w.heap.size 26 (v.n1.set v.a1 hole0) rfl hn ?_))
      have hb4 := HB.out.2.1.trans (hc4.below (fun k hk => by omega) HB.out.2.1.size)
      have HC : Hid (Blk w4 w.heap.size 71 (lw v 1).cs.toArray ∧ Below w.heap.size w w4) := Lib.hid (And.intro hB4 hb4)
      have HX := Lib.hid HB.out.2.2
      clear HB hB4 hc4 hb4
      refine Calls.mono (HE.out _) ?_
      rintro e w5 ⟨rfl, hb5⟩
      have HD := Lib.hid (And.intro (HC.out.1.below hb5 HC.out.1.lt) (HC.out.2.trans (hb5.mono HC.out.2.size)))
      clear HC HE hb5 hn
      cases he : emptyF (v.n1.set v.a1 hole0) with
      | true =>
        have HF := Lib.hid he
        clear he
        go_wp2_with fail
        go_roundw
        case rel => exact ⟨1, by omega, rfl, HD.out.2, HD.out.1, fun _ => HF.out, fun h => absurd h (by omega)⟩
        case measure => simp [intOf]
      | false =>
        have HF : Hid (leftN v = 2) := Lib.hid (by
          unfold leftN
          rw [he, if_neg (by decide)])
        clear he
        go_wp2_with fail
        go_ret
        exact ⟨by rw [HF.out]; rfl, HD.out.2⟩
    · rw [show (1 - ((1 : Nat) : Int)) = 0 from rfl]
      have hat : wr.drew.cell? ⟨w.heap.size, 0, none⟩ = some (.int .i64 (v.a0 : Int)) := (hbv.below (Below.refl wr.heap.size wr).drew hbv.lt).wyAt 0 (by omega)
      have ha8 : (v.a0 : Int) < 8 := by omega
      have ha0 : (0 : Int) ≤ (v.a0 : Int) := by omega
      have HB := Lib.hid (And.intro (hbv.below (Below.refl wr.heap.size wr).drew hbv.lt) (And.intro hb.drew (And.intro he1 he0)))
      clear hbv hb he1 he0
      go_wp2_with fail
      go_still_tail 9, (by kernel_rfl)
      change wpList _ _ _ _ _ wr.drew
      generalize wr.drew = w2 at *
      have HE := Lib.hid (nempty_any (v.n0.set v.a0 hole0))
      go_wp2_with (first
        | (refine st_wyq rfl (.tmp 16) (.tmp 13) rfl w.heap.size _ (lw v 1) 0 (by omega) v.a0 h0 hole0 _ (by omega) rfl rfl HB.out.1 ?_; intro w4 hB4 hc4; have hn : w4.rangeAt w.heap.size 2 (v.n0.set v.a0 hole0).cs := hB4.wyNode 0 (by omega))
        | (with_reducible refine ld_p8 rfl _ rfl w.heap.size 2 (v.n0.set v.a0 hole0) rfl hn ?_))
      have hb4 := HB.out.2.1.trans (hc4.below (fun k hk => by omega) HB.out.2.1.size)
      have HC : Hid (Blk w4 w.heap.size 71 (lw v 2).cs.toArray ∧ Below w.heap.size w w4) := Lib.hid (And.intro hB4 hb4)
      have HX := Lib.hid HB.out.2.2
      clear HB hB4 hc4 hb4
      refine Calls.mono (HE.out _) ?_
      rintro e w5 ⟨rfl, hb5⟩
      have HD := Lib.hid (And.intro (HC.out.1.below hb5 HC.out.1.lt) (HC.out.2.trans (hb5.mono HC.out.2.size)))
      clear HC HE hb5 hn
      cases he : emptyF (v.n0.set v.a0 hole0) with
      | true =>
        have HF := Lib.hid he
        clear he
        go_wp2_with fail
        go_roundw
        case rel => exact ⟨2, by omega, rfl, HD.out.2, HD.out.1, fun _ => HX.out.1 (by omega), fun h => HF.out⟩
        case measure => simp [intOf]
      | false =>
        have HF : Hid (leftN v = 1) := Lib.hid (by
          unfold leftN
          rw [he, HX.out.1 (by omega), if_pos rfl, if_neg (by decide)])
        clear he
        go_wp2_with fail
        go_ret
        exact ⟨by rw [HF.out]; rfl, HD.out.2⟩
    · rw [show (1 - ((2 : Nat) : Int)) = -1 from rfl]
      have HF : Hid (leftN v = 0) := Lib.hid (by
        unfold leftN
        rw [he1 (by omega), he0 (by omega), if_pos rfl, if_pos rfl])
      clear he1 he0
      go_wp2_with fail
      go_ret
      exact ⟨by rw [HF.out]; rfl, hb⟩
end
section
open Go.RowKit

theorem ret_ptr3 {w : World} {g : Nat} {t : TypeId} {a b s : Int} {fn : Func} {p u v : Tmp} {tmps : Array Value} (hf : fn.results = #[.cell p 32, .tmp u, .tmp v]) (hB : Blk w g t (pcs a b s)) (hp : tmps.getD p undef = .pointer (some ⟨g, 0, none⟩)) :
    (results fn tmps).run Try.prog w = .ok (.tuple #[ptv a b s, tmps.getD u undef, tmps.getD v undef]) w := by
  have hp' : tmps[p]?.getD undef = .pointer (some ⟨g, 0, none⟩) := by simpa using hp
  simp [results, hf, hp', asAddr, run_loadVar_row w g t 32 (pcs a b s) (0, 0) _ hB Try.underlying32 rfl ptr_size]
theorem ex_ldWy {o : Oper} {a : Act} {w : World} (x : Operand) (ho : o.op = .load 71 x) (g : Nat) (t : TypeId) (v : Wy) (hx : a.eval x = .pointer (some ⟨g, 0, none⟩)) (hg : Blk w g t v.cs.toArray) :
    (execOp a.eval o).run Try.prog w = .ok (.value (.agg v.cs.toArray)) w := by
  have h := run_loadAt_mid w g 0 _ v.cs _ hg.wyIs Try.underlying71 rfl (sizeWy' v)
  unfold execOp
  simp only [ho, hx, h, Sem.run_bind, Sem.run_pure, Result.andThen_ok]
theorem three_new {w0 w : World} {O0 O : Nat → Prop} {g : Nat} {P : Pw} (h : Sta w0 O0 w O g P) (t t' t'' : TypeId) (cs cs' cs'' : Array Value) :
    ∃ W, W = ((w.alloc (.cells cs t)).alloc (.cells cs' t')).alloc (.cells cs'' t'') ∧ Sta w0 O0 W O g P ∧ Bx w0 W O w.heap.size t cs ∧ Bx w0 W O (w.heap.size + 1) t' cs' ∧ Bx w0 W O (w.heap.size + 2) t'' cs'' := by
  obtain ⟨W, hW, h1, h2, h3⟩ := two_new h t t' cs cs'
  have h4 := Bx.new h1 t'' cs''
  have e : W.heap.size = w.heap.size + 2 := by rw [hW]; simp
  rw [e] at h4
  exact ⟨_, by rw [hW], h1.alloc _, h2.alloc _, h3.alloc _, h4⟩
theorem ownq_ge {w : World} {base : Nat} {v : Value} {l : List PtrV} (h : OwnQ w base v l) : ∀ g, v.ownBlock = some g → base ≤ g := fun g hg => by
  rcases h.2 with ⟨h0, _⟩ | ⟨g', cap, cur, rfl, hbg, hg', _⟩
  · rw [h0] at hg
    cases hg
  · have e : g' = g := by simpa [Value.ownBlock] using hg
    omega
theorem ownq_rdF {w w' : World} {base : Nat} {u : Value} {l : List PtrV} {O : Nat → Prop} (h : OwnQ w' base u l) (hO : ∀ k, O k → k < base) (hb : w.heap.size ≤ base) : ∃ A d, u = .slice A l.length d ∧ RdF w w' O A (pqs l) := by
  obtain ⟨A, c, rfl, hr, _⟩ := own_rd h
  have hf : ∀ b off, A = some ⟨b, off, none⟩ → 0 < (pqs l).length → base ≤ b := fun b off e hn => by
    rw [pqs_len] at hn
    obtain ⟨g, cap, e2, hg, _⟩ := own_form h (by omega)
    rw [e] at e2
    simp only [Value.slice.injEq, Option.some.injEq, Addr.mk.injEq] at e2
    omega
  exact ⟨A, c, rfl, ⟨hr, fun b off e hn ho => by have := hf b off e hn; have := hO b ho; omega⟩, fun b off e hn => by have := hf b off e hn; omega⟩
section
variable {w : World} {O : Nat → Prop} {g : Nat} {P : Pw}
def tw1 (v : Wy) (q : PtrV) : Wy := v.setN 1 (v.n1.set v.a1 q)
def tw2 (v : Wy) (q q1 : PtrV) : Wy := (tw1 v q).setN 0 (v.n0.set v.a0 q1)
theorem outL_tw2 (v : Wy) (q q1 : PtrV) : outL (tw2 v q q1) 3 = outL v 3 := by
  simp [tw2, tw1, Wy.setN, outL]
set_option maxHeartbeats 4000000 in
theorem tturn_any (h : PileAt w O g P) (v : Wy) (h0 : v.a0 < 8) (h1 : v.a1 < 8) (q : PtrV) (m1 m0 : P8) (hm1 : m1 = v.n1.set v.a1 q) (hm0 : m0 = v.n0.set v.a0 (putNQ P m1))
    (k1 : m1.ok ∧ all8 m1 = true) (c1 : emptyF m1 = false → putC P (nbS m1).l = 0) (k0 : m0.ok ∧ all8 m0 = true) (c0 : emptyF m0 = false → putC (putNP P m1) (nbS m0).l = 0) (hN1 : P.N ≤ 1000000) (hN0 : (putNP P m1).N ≤ 1000000) :
    Calls Try.prog 34 #[.agg v.cs.toArray, .pointer (some ⟨g, 0, none⟩), ptq q] w
      fun e w' => ∃ O' B d, e = .returned (.tuple #[ptq (putNQ (putNP P m1) m0), .slice B (outL v 3).length d, .int .i64 0]) ∧ PileAt w' O' g (putNP (putNP P m1) m0) ∧ RdF w w' O' B (pqs (outL v 3)) ∧ Step w w' O O' := by
  obtain ⟨W, hW, hs, hbv, hbq, hbr⟩ := three_new (Sta.first h) 71 32 32 v.cs.toArray (pcs q.1 q.2.1 q.2.2) (pcs 0 0 0)
  have HA := Lib.hid (And.intro hs (And.intro hbv (And.intro hbq hbr)))
  have HP1 : Hid (∀ w O, PileAt w O g P → _) := Lib.hid fun w O (h : PileAt w O g P) => tput_any h m1 k1.1 k1.2 c1 hN1
  have HP0 : Hid (∀ w O, PileAt w O g (putNP P m1) → _) := Lib.hid fun w O (h : PileAt w O g (putNP P m1)) => tput_any h m0 k0.1 k0.2 c0 hN0
  have HN1 := Lib.hid hm1
  have HN0 := Lib.hid hm0
  have HR := Lib.hid (replaced_any (tw2 v q (putNQ P m1)))
  generalize hQ1 : putNQ P m1 = q1 at *
  generalize hP1 : putNP P m1 = P1 at *
  generalize hQ0 : putNQ P1 m0 = q0 at *
  generalize hP0 : putNP P1 m0 = P0 at *
  have HF := Lib.hid h.foot
  clear h hs hbv hbq hbr k1 c1 k0 c0 hN1 hN0 hm1 hm0 hQ1 hP1 hQ0 hP0
  go_enter Try.func34, Try.ntmps34
  go_wp2_with fail
  rw [← hW]
  clear hW
  go_loopw [9] (fun i wr => ∃ (k : Nat) (Oq : Nat → Prop) (u : Wy) (r : PtrV) (Pr : Pw), k ≤ 2 ∧ i = .int .i64 (1 - (k : Int)) ∧ (u, r, Pr) = (if k = 0 then (v, q, P) else if k = 1 then (tw1 v q, q1, P1) else (tw2 v q q1, q0, P0)) ∧
    Sta w O wr Oq g Pr ∧ Bx w wr Oq w.heap.size 71 u.cs.toArray ∧ Bx w wr Oq (w.heap.size + 1) 32 (pcs r.1 r.2.1 r.2.2) ∧ Bx w wr Oq (w.heap.size + 2) 32 (pcs 0 0 0)) (fun i _ => (2 + intOf i).toNat)
  case atStart => exact ⟨0, O, v, q, P, by omega, rfl, rfl, HA.out⟩
  case round =>
    clear HA
    obtain ⟨k, Oq, u, r, Pr, hk, rfl, hup, hs, hbv, hbq, hbr⟩ := hrel
    rcases (show k = 0 ∨ k = 1 ∨ k = 2 by omega) with rfl | rfl | rfl
    · rw [show (1 - ((0 : Nat) : Int)) = 1 from rfl]
      obtain ⟨rfl, rfl, rfl⟩ : v = u ∧ q = r ∧ P = Pr := by
        have e : (u, r, Pr) = (v, q, P) := hup
        simp only [Prod.mk.injEq] at e
        exact ⟨e.1.symm, e.2.1.symm, e.2.2.symm⟩
      clear hup
      have hat : wr.drew.cell? ⟨w.heap.size, 1, none⟩ = some (.int .i64 (v.a1 : Int)) := hbv.drew.blk.wyAt 1 (by omega)
      have hq0 : wr.drew.cell? ⟨w.heap.size + 1, 0, none⟩ = some (.int .i64 q.1) := hbq.drew.blk.cell 0
      have hq1 : wr.drew.cell? ⟨w.heap.size + 1, 1, none⟩ = some (.int .u64 q.2.1) := hbq.drew.blk.cell 1
      have hq2 : wr.drew.cell? ⟨w.heap.size + 1, 2, none⟩ = some (.int .u32 q.2.2) := hbq.drew.blk.cell 2
      have ha8 : (v.a1 : Int) < 8 := by omega
      have ha0 : (0 : Int) ≤ (v.a1 : Int) := by omega
      have HB := Lib.hid (And.intro hs.drew (And.intro hbv.drew (And.intro hbq.drew hbr.drew)))
      clear hs hbv hbq hbr
      go_wp2_with fail
      go_still_tail 9, (by kernel_rfl)
      change wpList _ _ _ _ _ wr.drew
      clear hq0 hq1 hq2 hat
      generalize wr.drew = w2 at *
      go_wp2_with (first
        | (refine st_wyq rfl (.tmp 23) (.tmp 20) rfl w.heap.size _ (v) 1 (by omega) v.a1 h1 q _ (by omega) rfl rfl HB.out.2.1.blk ?_; intro w4 hB4 hc4; have hn : w4.rangeAt w.heap.size 26 m1.cs := (by rw [HN1.out]; exact hB4.wyNode 1 (by omega)))
        | (with_reducible refine ld_p8 rfl _ rfl w.heap.size 26 m1 rfl hn ?_))
      have hs4 := HB.out.1.aside HB.out.2.1 hc4
      have HC : Hid (Sta w O w4 Oq g P ∧ Bx w w4 Oq w.heap.size 71 (tw1 v q).cs.toArray ∧ Bx w w4 Oq (w.heap.size + 1) 32 (pcs q.1 q.2.1 q.2.2) ∧ Bx w w4 Oq (w.heap.size + 2) 32 (pcs 0 0 0)) :=
        Lib.hid ⟨hs4, HB.out.2.1.put hB4, HB.out.2.2.1.aside hc4 (by omega), HB.out.2.2.2.aside hc4 (by omega)⟩
      clear HB hB4 hc4 hs4
      refine Calls.mono (HP1.out _ _ HC.out.1.at_) ?_
      rintro e w5 ⟨O5, rfl, hp5, hs5⟩
      have HD := Lib.hid (And.intro (HC.out.1.call hp5 hs5) (And.intro (HC.out.2.1.step hs5) (And.intro (HC.out.2.2.1.step hs5) (HC.out.2.2.2.step hs5))))
      clear HC hp5 hs5 hn
      go_wp2_with (refine st_pt2 rfl (.tmp 5) (.tmp 31) rfl (w.heap.size + 1) _ q1.1 q1.2.1 q1.2.2 rfl rfl HD.out.2.2.1.blk rfl ?_; intro w6 hB6 hk6)
      have hc6 := hk6 (· = w.heap.size + 1) rfl
      go_roundw
      case rel => exact ⟨1, O5, tw1 v q, q1, P1, by omega, rfl, rfl, HD.out.1.aside HD.out.2.2.1 hc6, HD.out.2.1.aside hc6 (by omega), HD.out.2.2.1.put hB6, HD.out.2.2.2.aside hc6 (by omega)⟩
      case measure => simp [intOf]
    · rw [show (1 - ((1 : Nat) : Int)) = 0 from rfl]
      obtain ⟨rfl, rfl, rfl⟩ : tw1 v q = u ∧ q1 = r ∧ P1 = Pr := by
        have e : (u, r, Pr) = (tw1 v q, q1, P1) := hup
        simp only [Prod.mk.injEq] at e
        exact ⟨e.1.symm, e.2.1.symm, e.2.2.symm⟩
      clear hup
      have hat : wr.drew.cell? ⟨w.heap.size, 0, none⟩ = some (.int .i64 (v.a0 : Int)) := hbv.drew.blk.wyAt 0 (by omega)
      have hq0 : wr.drew.cell? ⟨w.heap.size + 1, 0, none⟩ = some (.int .i64 q1.1) := hbq.drew.blk.cell 0
      have hq1 : wr.drew.cell? ⟨w.heap.size + 1, 1, none⟩ = some (.int .u64 q1.2.1) := hbq.drew.blk.cell 1
      have hq2 : wr.drew.cell? ⟨w.heap.size + 1, 2, none⟩ = some (.int .u32 q1.2.2) := hbq.drew.blk.cell 2
      have ha8 : (v.a0 : Int) < 8 := by omega
      have ha0 : (0 : Int) ≤ (v.a0 : Int) := by omega
      have HB := Lib.hid (And.intro hs.drew (And.intro hbv.drew (And.intro hbq.drew hbr.drew)))
      clear hs hbv hbq hbr
      go_wp2_with fail
      go_still_tail 9, (by kernel_rfl)
      change wpList _ _ _ _ _ wr.drew
      clear hq0 hq1 hq2 hat
      generalize wr.drew = w2 at *
      go_wp2_with (first
        | (refine st_wyq rfl (.tmp 23) (.tmp 20) rfl w.heap.size _ (tw1 v q) 0 (by omega) v.a0 h0 q1 _ (by omega) rfl rfl HB.out.2.1.blk ?_; intro w4 hB4 hc4; have hn : w4.rangeAt w.heap.size 2 m0.cs := (by rw [HN0.out]; exact hB4.wyNode 0 (by omega)))
        | (with_reducible refine ld_p8 rfl _ rfl w.heap.size 2 m0 rfl hn ?_))
      have hs4 := HB.out.1.aside HB.out.2.1 hc4
      have HC : Hid (Sta w O w4 Oq g P1 ∧ Bx w w4 Oq w.heap.size 71 (tw2 v q q1).cs.toArray ∧ Bx w w4 Oq (w.heap.size + 1) 32 (pcs q1.1 q1.2.1 q1.2.2) ∧ Bx w w4 Oq (w.heap.size + 2) 32 (pcs 0 0 0)) :=
        Lib.hid ⟨hs4, HB.out.2.1.put hB4, HB.out.2.2.1.aside hc4 (by omega), HB.out.2.2.2.aside hc4 (by omega)⟩
      clear HB hB4 hc4 hs4
      refine Calls.mono (HP0.out _ _ HC.out.1.at_) ?_
      rintro e w5 ⟨O5, rfl, hp5, hs5⟩
      have HD := Lib.hid (And.intro (HC.out.1.call hp5 hs5) (And.intro (HC.out.2.1.step hs5) (And.intro (HC.out.2.2.1.step hs5) (HC.out.2.2.2.step hs5))))
      clear HC hp5 hs5 hn
      go_wp2_with (refine st_pt2 rfl (.tmp 5) (.tmp 31) rfl (w.heap.size + 1) _ q0.1 q0.2.1 q0.2.2 rfl rfl HD.out.2.2.1.blk rfl ?_; intro w6 hB6 hk6)
      have hc6 := hk6 (· = w.heap.size + 1) rfl
      go_roundw
      case rel => exact ⟨2, O5, tw2 v q q1, q0, P0, by omega, rfl, rfl, HD.out.1.aside HD.out.2.2.1 hc6, HD.out.2.1.aside hc6 (by omega), HD.out.2.2.1.put hB6, HD.out.2.2.2.aside hc6 (by omega)⟩
      case measure => simp [intOf]
    · rw [show (1 - ((2 : Nat) : Int)) = -1 from rfl]
      obtain ⟨rfl, rfl, rfl⟩ : tw2 v q q1 = u ∧ q0 = r ∧ P0 = Pr := by
        have e : (u, r, Pr) = (tw2 v q q1, q0, P0) := hup
        simp only [Prod.mk.injEq] at e
        exact ⟨e.1.symm, e.2.1.symm, e.2.2.symm⟩
      clear hup
      have hS : Bx w wr.drew Oq (w.heap.size + 1) 32 (pcs q0.1 q0.2.1 q0.2.2) ∧ Bx w wr.drew Oq w.heap.size 71 (tw2 v q q1).cs.toArray := ⟨hbq.drew, hbv.drew⟩
      have HB := Lib.hid (And.intro hs.drew hbr.drew)
      clear hs hbv hbq hbr HP1 HP0
      go_wp2_with fail
      refine wp_region_held_drew (S := (fun w' => Blk w' (w.heap.size + 1) 32 (pcs q0.1 q0.2.1 q0.2.2) ∧ Blk w' w.heap.size 71 (tw2 v q q1).cs.toArray)) (by kernel_rfl) ⟨hS.1.blk, hS.2.blk⟩ (fun hHeld => ?_)
      have HS := Lib.hid hS
      clear hS
      generalize wr.drew = w4 at *
      refine wpAnyH_take (i := 0) (v := (ptq q0)) rfl (by kernel_rfl) (by kernel_rfl) (by kernel_rfl) (fun _ _ _ h => h) (Or.inl ⟨by rfl, ?_⟩) (by assumption) ?_
      · intro w' hS
        exact ex_ldPq (.tmp 5) rfl (w.heap.size + 1) q0.1 q0.2.1 q0.2.2 rfl hS.1
      try simp [Act.put]
      refine wpAnyH_take (i := 1) (v := (.agg (tw2 v q q1).cs.toArray)) rfl (by kernel_rfl) (by kernel_rfl) (by kernel_rfl) (fun _ _ _ h => h) (Or.inl ⟨by rfl, ?_⟩) (by assumption) ?_
      · intro w' hS
        exact ex_ldWy (.tmp 3) rfl w.heap.size _ (tw2 v q q1) rfl hS.2
      try simp [Act.put]
      refine wpAnyH_ready (rs := [2]) (by kernel_rfl) (by simp) ?_
      refine AllReadyH.cons rfl (fun K hK => ?_) AllReadyH.nil
      go_simp
      refine Calls.mono (HR.out _) ?_
      rintro e w5 ⟨u, rfl, ho5, hb5⟩
      have HC := Lib.hid (And.intro (HB.out.1.far hb5) (And.intro (HB.out.2.later hb5) (And.intro ho5 (And.intro HB.out.2.lt HB.out.1.at_.foot))))
      refine hK.out _ _ ⟨HS.out.1.blk.below hb5 HS.out.1.lt, HS.out.2.blk.below hb5 HS.out.2.lt⟩ (fun hHeld2 => ?_)
      clear HB hb5 ho5 HR
      clear hK K
      try simp
      clear hHeld
      have hHeld := hHeld2
      clear hHeld2
      refine wpAnyH_ready (rs := [3]) (by kernel_rfl) (by simp) ?_
      refine AllReadyH.cons rfl (fun K hK => ?_) AllReadyH.nil
      refine step_stPt rfl (.tmp 6) (.tmp 39) rfl (w.heap.size + 2) q0.1 q0.2.1 q0.2.2 0 0 0 rfl rfl HC.out.2.1.blk ?_
      intro w6 hB6 _ hc6
      have hd6 := hc6 (· = w.heap.size + 2) rfl
      have HD := Lib.hid (And.intro (HC.out.1.aside HC.out.2.1 hd6) (own_chg HC.out.2.2.1 hd6 fun k hk e => by have := ownq_ge HC.out.2.2.1 k hk; have := HC.out.2.2.2.1; omega))
      have HE := Lib.hid hB6
      have HG := Lib.hid HC.out.2.2.2
      have hh6 : Blk w6 (w.heap.size + 1) 32 (pcs q0.1 q0.2.1 q0.2.2) ∧ Blk w6 w.heap.size 71 (tw2 v q q1).cs.toArray := ⟨hHeld.1.chg hd6 (by omega), hHeld.2.chg hd6 (by omega)⟩
      refine hK.out _ _ hh6 (fun hHeld2 => ?_)
      clear hB6 hc6 hd6 HC hh6
      clear hK K
      try simp
      clear hHeld
      have hHeld := hHeld2
      clear hHeld2
      refine wpAnyH_take (i := 4) (v := u) rfl (by kernel_rfl) (by kernel_rfl) (by kernel_rfl) (fun _ _ _ h => h) (Or.inl ⟨by rfl, ?_⟩) (by assumption) ?_
      · intro w' hS; go_simp; try with_reducible rfl
      try simp [Act.put]
      refine wpAnyH_take (i := 5) (v := (.int .i64 0)) rfl (by kernel_rfl) (by kernel_rfl) (by kernel_rfl) (fun _ _ _ h => h) (Or.inl ⟨by rfl, ?_⟩) (by assumption) ?_
      · intro w' hS; go_simp; try with_reducible rfl
      try simp [Act.put]
      refine wpAnyH_done (by kernel_rfl) ?_ _
      go_wp2_with fail
      obtain ⟨A, d, rfl, hrd⟩ := ownq_rdF (w := w) HD.out.2 HG.out.2 (by have := HG.out.1; omega)
      rw [outL_tw2] at hrd ⊢
      exact bodyPost_ret (ret_ptr3 rfl HE.out rfl) rfl ⟨Oq, A, d, rfl, HD.out.1.at_, hrd, HD.out.1.st⟩
end
end
section
open Go.RowKit

theorem ex_ldPr {o : Oper} {a : Act} {w : World} (x : Operand) (ho : o.op = .load 32 x) (g k : Nat) (q : PtrV) (hx : a.eval x = .pointer (some ⟨g, k, none⟩)) (hr : w.rangeAt g k [.int .i64 q.1, .int .u64 q.2.1, .int .u32 q.2.2]) :
    (execOp a.eval o).run Try.prog w = .ok (.value (ptq q)) w := by
  have h := run_loadAt_mid w g k _ [.int .i64 q.1, .int .u64 q.2.1, .int .u32 q.2.2] _ hr Try.underlying32 rfl ptr_size
  unfold execOp
  simp only [ho, hx, h, Sem.run_bind, Sem.run_pure, Result.andThen_ok]
theorem ex_ldP8c {o : Oper} {a : Act} {w : World} (x : Operand) (ho : o.op = .load 67 x) (g : Nat) (t : TypeId) (p : P8) (hx : a.eval x = .pointer (some ⟨g, 0, none⟩)) (hg : Blk w g t p.cs.toArray) :
    (execOp a.eval o).run Try.prog w = .ok (.value (.agg p.cs.toArray)) w := by
  have h := run_loadAt_mid w g 0 _ p.cs _ hg.p8Is Try.underlying67 rfl (sizeP8' p)
  unfold execOp
  simp only [ho, hx, h, Sem.run_bind, Sem.run_pure, Result.andThen_ok]
/-- A node, a pointer stored in a way. -/
theorem step_stWn {ops : Array Oper} {o : Oper} {a : Act} {w : World} {K : Act → World → Prop} {Q : Exit → Act → World → Prop} {E : Prop} (hgd : o.guard = none) (x y : Operand) (ho : o.op = .store 67 x y)
    (b : Nat) (t : TypeId) (v : Wy) (k : Nat) (hk : k < 2) (p : P8) (m : Nat) (hm : m = 2 + k * 24) (hx : a.eval x = .pointer (some ⟨b, m, none⟩)) (hy : a.eval y = .agg p.cs.toArray) (hb : Blk w b t v.cs.toArray)
    (h : ∀ w', Blk w' b t (v.setN k p).cs.toArray → Chg w w' (· = b) → K (a.put o.dst undef) w') : if Region.wanted o (yielded ops a.tmps) = true then Oper.wp Try.prog o a w K Q else E := by
  subst hm
  have hw : Region.wanted o (yielded ops a.tmps) = true := by simp [Region.wanted, hgd]
  rw [if_pos hw]
  exact wp_store_mid _ x y ho b _ p.cs.toArray hx hy (by rw [List.size_toArray, P8.cs_len]; exact hb.wyThereN k hk) (sizeP8'' p) (all_one p.one) (h _ (hb.wyNSet k hk p) (Chg.setCells (O := (· = b)) (.inl rfl) _ _ (Chg.refl _ _)))
theorem step_stWp {ops : Array Oper} {o : Oper} {a : Act} {w : World} {K : Act → World → Prop} {Q : Exit → Act → World → Prop} {E : Prop} (hgd : o.guard = none) (x y : Operand) (ho : o.op = .store 32 x y)
    (b : Nat) (t : TypeId) (v : Wy) (k : Nat) (hk : k < 3) (q : PtrV) (m : Nat) (hm : m = 50 + k * 3) (hx : a.eval x = .pointer (some ⟨b, m, none⟩)) (hy : a.eval y = ptq q) (hb : Blk w b t v.cs.toArray)
    (h : ∀ w', Blk w' b t (v.setP k q).cs.toArray → Chg w w' (· = b) → K (a.put o.dst undef) w') : if Region.wanted o (yielded ops a.tmps) = true then Oper.wp Try.prog o a w K Q else E := by
  subst hm
  have hw : Region.wanted o (yielded ops a.tmps) = true := by simp [Region.wanted, hgd]
  rw [if_pos hw]
  exact wp_store_mid _ x y ho b _ (pcs q.1 q.2.1 q.2.2) hx hy (hb.wyThereP k hk) ptr_size (by simp [Value.oneCell']) (h _ (hb.wyPSet k hk q) (Chg.setCells (O := (· = b)) (.inl rfl) _ _ (Chg.refl _ _)))
theorem st_wyp {ops : Array Oper} {rest : List Oper} {o : Oper} {a : Act} {w : World} {Q : Exit → Act → World → Prop} (hgd : o.guard = none) (x y : Operand) (ho : o.op = .store 32 x y)
    (b : Nat) (t : TypeId) (v : Wy) (k : Nat) (hk : k < 3) (q : PtrV) (m : Nat) (hm : m = 50 + k * 3) (hx : a.eval x = .pointer (some ⟨b, m, none⟩)) (hy : a.eval y = ptq q) (hB : Blk w b t v.cs.toArray)
    (h : ∀ w', Blk w' b t (v.setP k q).cs.toArray → Chg w w' (· = b) → wpList Try.prog ops Q rest (a.put o.dst undef) w') : wpList Try.prog ops Q (o :: rest) a w := by
  subst hm
  refine wpList_store_mid hgd _ x y ho b _ (pcs q.1 q.2.1 q.2.2) hx hy (hB.wyThereP k hk) ptr_size (by simp [Value.oneCell']) ?_
  exact h _ (hB.wyPSet k hk q) (Chg.setCells (O := (· = b)) (.inl rfl) _ _ (Chg.refl _ _))
def fw0 (m n : Nat) (r : PtrV) : Wy := ⟨m, n, zp8, zp8, r, hole0, hole0⟩
def fw1 (m n : Nat) (r : PtrV) (F : P8) : Wy := ⟨m, n, F, zp8, r, F.at_ m, hole0⟩
def fw2 (m n : Nat) (r : PtrV) (F S : P8) : Wy := ⟨m, n, F, S, r, F.at_ m, S.at_ n⟩
section
variable {w : World} {O : Nat → Prop} {g : Nat} {P : Pw}
set_option maxHeartbeats 4000000 in
theorem find_any (h : PileAt w O g P) (r : PtrV) (i : Nat) (hi : i < 64) (m n : Nat) (hm : i / 8 = m) (hn : i % 8 = n) (x0 x1 : Sec) (F S : P8) (hx0 : getS P r = (x0, 0)) (hc0 : nrC x0 = 0) (hF : nrP x0 = F) (hx1 : getS P (F.at_ m) = (x1, 0)) (hc1 : nrC x1 = 0) (hS : nrP x1 = S) :
    Calls Try.prog 26 #[.pointer (some ⟨g, 0, none⟩), ptq r, .int .i64 (i : Int)] w
      fun e w' => ∃ O', e = .returned (.tuple #[.agg (fw2 m n r F S).cs.toArray, .int .i64 0]) ∧ PileAt w' O' g P ∧ Step w w' O O' := by
  obtain ⟨W, hW, hs, hbr, hbz⟩ := two_new (Sta.first h) 32 71 (pcs r.1 r.2.1 r.2.2) zwy.cs.toArray
  have HA := Lib.hid (And.intro hs (And.intro hbr hbz))
  have HP0 : Hid (∀ w O, PileAt w O g P → _) := Lib.hid fun w O (h : PileAt w O g P) => had_any h r x0 hx0 hc0
  have HP1 : Hid (∀ w O, PileAt w O g P → _) := Lib.hid fun w O (h : PileAt w O g P) => had_any h (F.at_ m) x1 hx1 hc1
  rw [hF] at HP0
  rw [hS] at HP1
  have HT := steps_any i hi
  rw [hm, hn] at HT
  have HT := Lib.hid HT
  have hm8 : m < 8 := by omega
  have hn8 : n < 8 := by omega
  clear hm hn
  have hz : ∀ w, Sem.run Try.prog (zeroValue 71) w = .ok (.agg zwy.cs.toArray) w := zeroWy
  have hz8 : ∀ w, Sem.run Try.prog (zeroValue 67) w = .ok (.agg zp8.cs.toArray) w := zeroP8
  have hbd : ∀ w, (Instr.build 71 #[(0, .agg #[.int .i64 (m : Int), .int .i64 (n : Int)])]).run Try.prog w = .ok (.agg (Wy.mk m n zp8 zp8 hole0 hole0 hole0).cs.toArray) w := buildWy1 m n
  clear h hs hbr hbz hx0 hc0 hF hx1 hc1 hS
  go_enter Try.func26, Try.ntmps26
  go_upto_region 1 with (fail)
  rw [← hW]
  clear hW
  go_wp2_with fail
  refine Calls.mono (HT.out _) ?_
  rintro e w2 ⟨rfl, hb2⟩
  have ha2 := HA.out.1.far hb2
  have hr2 := HA.out.2.1.later hb2
  have hz2 := HA.out.2.2.later hb2
  have HB := Lib.hid (And.intro (Bx.new ha2 71 zwy.cs.toArray) (And.intro (ha2.alloc (.cells zwy.cs.toArray 71)) (And.intro (hr2.alloc (.cells zwy.cs.toArray 71)) (hz2.alloc (.cells zwy.cs.toArray 71)))))
  have H8 : Hid (w.heap.size + 1 < w2.heap.size) := Lib.hid hz2.lt
  clear HA HT hb2 ha2 hr2 hz2
  go_wp2_with (first
    | (refine st_wyc rfl (.tmp 8) (.tmp 15) rfl w2.heap.size _ _ (Wy.mk m n zp8 zp8 hole0 hole0 hole0) rfl rfl HB.out.1.blk ?_; intro w3 hB3 hc3)
    | (with_reducible refine ld_ptr rfl (.tmp 4) rfl w.heap.size 32 r.1 r.2.1 r.2.2 rfl (HB.out.2.2.1.aside hc3 (by have := H8.out; omega)).blk ?_)
    | (refine st_wyp rfl (.tmp 18) (.tmp 16) rfl w2.heap.size _ _ 0 (by omega) r _ (by omega) rfl rfl hB3 ?_; intro w4 hB4 hc4; have hI : w4.rangeAt w2.heap.size 0 [.int .i64 (m : Int), .int .i64 (n : Int)] := hB4.wyA)
    | (with_reducible refine ld_i2 rfl (.tmp 19) rfl w2.heap.size 0 (m : Int) (n : Int) rfl hI ?_))
  have ha4 := (HB.out.2.1.aside HB.out.1 hc3).aside (HB.out.1.put hB3) hc4
  have hz4 := (HB.out.2.2.2.aside hc3 (by have := H8.out; omega)).aside hc4 (by have := H8.out; omega)
  have hw4 : Bx w w4 O w2.heap.size 71 (fw0 m n r).cs.toArray := HB.out.1.put hB4
  have HC := Lib.hid (And.intro ha4 (And.intro hw4 hz4))
  clear hI HB hB3 hc3 hB4 hc4 ha4 hz4 hw4
  generalize w2.heap.size = b8 at *
  go_loopw [21] (fun j wr => ∃ (k : Nat) (Oq : Nat → Prop) (u : Wy), k ≤ 2 ∧ j = .int .i64 (k : Int) ∧ u = (if k = 0 then fw0 m n r else if k = 1 then fw1 m n r F else fw2 m n r F S) ∧
    Sta w O wr Oq g P ∧ Bx w wr Oq b8 71 u.cs.toArray ∧ Bx w wr Oq (w.heap.size + 1) 71 zwy.cs.toArray) (fun j _ => (2 - intOf j).toNat)
  case atStart => exact ⟨0, O, _, by omega, rfl, rfl, HC.out⟩
  case round =>
    clear HC
    obtain ⟨k, Oq, u, hk, rfl, rfl, hs, hbv, hbz⟩ := hrel
    rcases (show k = 0 ∨ k = 1 ∨ k = 2 by omega) with rfl | rfl | rfl
    · have hix : ∀ w, (Instr.index 66 (.agg #[.int .i64 (m : Int), .int .i64 (n : Int)]) (.int .i64 0)).run Try.prog w = .ok (.int .i64 (m : Int)) w := run_ix2 _ _ 0 (by omega)
      have hq : wr.rangeAt b8 50 [.int .i64 (r).1, .int .u64 (r).2.1, .int .u32 (r).2.2] := hbv.blk.wyPtr 0 (by omega)
      have hbv' : Bx w wr Oq b8 71 (fw0 m n r).cs.toArray := hbv
      have HD := Lib.hid (And.intro hs (And.intro hbv' hbz))
      clear hs hbv hbv' hbz
      have ha8 : (m : Int) < 8 := by omega
      have ha0 : (0 : Int) ≤ (m : Int) := by omega
      go_wp2_with (with_reducible refine ld_pq rfl _ rfl b8 50 (r) rfl hq ?_)
      refine Calls.mono (HP0.out _ _ HD.out.1.at_) ?_
      rintro e w4 ⟨O4, rfl, hp4, hs4⟩
      have ha4 := HD.out.1.call hp4 hs4
      have hv4 := HD.out.2.1.step hs4
      have hz4 := HD.out.2.2.step hs4
      have HE := Lib.hid (And.intro (Bx.new ha4 67 zp8.cs.toArray) (And.intro (ha4.alloc (.cells zp8.cs.toArray 67)) (And.intro (hv4.alloc (.cells zp8.cs.toArray 67)) (And.intro (hz4.alloc (.cells zp8.cs.toArray 67)) hv4.lt))))
      clear HD ha4 hv4 hz4 hp4 hs4 hq
      generalize hb11 : w4.heap.size = b11 at *
      go_wp2_with (refine st_p8c rfl (.tmp 11) (.tmp 32) rfl b11 _ _ F rfl rfl HE.out.1.blk ?_; intro wb hBb hcb)
      have HE := Lib.hid (And.intro (HE.out.1.put hBb) (And.intro (HE.out.2.1.aside HE.out.1 hcb) (And.intro (HE.out.2.2.1.aside hcb (by have := HE.out.2.2.2.2; omega)) (And.intro (HE.out.2.2.2.1.aside hcb (by have := HE.out.2.2.2.2; have := H8.out; omega)) HE.out.2.2.2.2))))
      clear hBb hcb
      have hS : Blk wb.drew b11 67 F.cs.toArray := HE.out.1.drew.blk
      have HF := Lib.hid (And.intro HE.out.2.1.drew (And.intro HE.out.2.2.1.drew (And.intro HE.out.2.2.2.1.drew HE.out.2.2.2.2)))
      clear HE
      refine wp_region_held_drew (S := (fun w' => Blk w' b11 67 F.cs.toArray)) (by kernel_rfl) hS (fun hHeld => ?_)
      clear hS
      generalize wb.drew = wc at *
      refine wpAnyH_take (i := 0) (v := (.int .i64 0)) rfl (by kernel_rfl) (by kernel_rfl) (by kernel_rfl) (fun _ _ _ h => h) (Or.inl ⟨by rfl, ?_⟩) (by assumption) ?_
      · intro w' hS; go_simp; try with_reducible rfl
      try simp [Act.put]
      refine wpAnyH_take (i := 1) (v := (.int .i64 0)) rfl (by kernel_rfl) (by kernel_rfl) (by kernel_rfl) (fun _ _ _ h => h) (Or.inl ⟨by rfl, ?_⟩) (by assumption) ?_
      · intro w' hS; go_simp; try with_reducible rfl
      try simp [Act.put]
      refine wpAnyH_take (i := 2) (v := (.int .i64 1)) rfl (by kernel_rfl) (by kernel_rfl) (by kernel_rfl) (fun _ _ _ h => h) (Or.inl ⟨by rfl, ?_⟩) (by assumption) ?_
      · intro w' hS
        go_simp
        first | with_reducible rfl | rfl
      try simp [Act.put]
      refine wpAnyH_take (i := 3) (v := (.agg F.cs.toArray)) rfl (by kernel_rfl) (by kernel_rfl) (by kernel_rfl) (fun _ _ _ h => h) (Or.inl ⟨by rfl, ?_⟩) (by assumption) ?_
      · intro w' hS
        exact ex_ldP8c (.tmp 11) rfl b11 _ F rfl hS
      try simp [Act.put]
      refine wpAnyH_take (i := 4) (v := (.int .i64 (m : Int))) rfl (by kernel_rfl) (by kernel_rfl) (by kernel_rfl) (fun _ _ _ h => h) (Or.inl ⟨by rfl, ?_⟩) (by assumption) ?_
      · intro w' hS; go_simp; try with_reducible rfl
      try simp [Act.put]
      refine wpAnyH_take (i := 5) (v := (.pointer (some ⟨b11, m * 3, none⟩))) rfl (by kernel_rfl) (by kernel_rfl) (by kernel_rfl) (fun _ _ _ h => h) (Or.inl ⟨by rfl, ?_⟩) (by assumption) ?_
      · intro w' hS; go_simp; try with_reducible rfl
      try simp [Act.put]
      refine wpAnyH_take (i := 6) (v := (ptq (F.at_ m))) rfl (by kernel_rfl) (by kernel_rfl) (by kernel_rfl) (fun _ _ _ h => h) (Or.inl ⟨by rfl, ?_⟩) (by assumption) ?_
      · intro w' hS
        exact ex_ldPr (.tmp 43) rfl b11 (m * 3) (F.at_ m) rfl (hS.p8At m (by omega))
      try simp [Act.put]
      refine wpAnyH_take (i := 7) (v := (.pointer (some ⟨b8, 2, none⟩))) rfl (by kernel_rfl) (by kernel_rfl) (by kernel_rfl) (fun _ _ _ h => h) (Or.inl ⟨by rfl, ?_⟩) (by assumption) ?_
      · intro w' hS; go_simp; try with_reducible rfl
      try simp [Act.put]
      refine wpAnyH_take (i := 8) (v := (.pointer (some ⟨b8, 2, none⟩))) rfl (by kernel_rfl) (by kernel_rfl) (by kernel_rfl) (fun _ _ _ h => h) (Or.inl ⟨by rfl, ?_⟩) (by assumption) ?_
      · intro w' hS; go_simp; try with_reducible rfl
      try simp [Act.put]
      refine wpAnyH_take (i := 10) (v := (.pointer (some ⟨b8, 50, none⟩))) rfl (by kernel_rfl) (by kernel_rfl) (by kernel_rfl) (fun _ _ _ h => h) (Or.inl ⟨by rfl, ?_⟩) (by assumption) ?_
      · intro w' hS; go_simp; try with_reducible rfl
      try simp [Act.put]
      refine wpAnyH_ready (rs := [9]) (by kernel_rfl) (by simp) ?_
      refine AllReadyH.cons rfl (fun K hK => ?_) AllReadyH.nil
      refine step_stWn rfl (.tmp 46) (.tmp 41) rfl b8 _ (fw0 m n r) 0 (by omega) F _ (by omega) rfl rfl HF.out.2.1.blk ?_
      intro w6 hB6 hc6
      have HG := Lib.hid (And.intro (HF.out.1.aside HF.out.2.1 hc6) (And.intro (HF.out.2.1.put hB6) (And.intro (HF.out.2.2.1.aside hc6 (by have := H8.out; omega)) HF.out.2.2.2)))
      refine hK.out _ _ (hHeld.chg hc6 (by have := HF.out.2.2.2; omega)) (fun hHeld2 => ?_)
      clear hB6 hc6 HF
      clear hK K
      try simp
      clear hHeld
      have hHeld := hHeld2
      clear hHeld2
      refine wpAnyH_take (i := 11) (v := (.pointer (some ⟨b8, 53, none⟩))) rfl (by kernel_rfl) (by kernel_rfl) (by kernel_rfl) (fun _ _ _ h => h) (Or.inl ⟨by rfl, ?_⟩) (by assumption) ?_
      · intro w' hS; go_simp; try with_reducible rfl
      try simp [Act.put]
      refine wpAnyH_ready (rs := [12]) (by kernel_rfl) (by simp) ?_
      refine AllReadyH.cons rfl (fun K hK => ?_) AllReadyH.nil
      refine step_stWp rfl (.tmp 48) (.tmp 44) rfl b8 _ _ 1 (by omega) (F.at_ m) _ (by omega) rfl rfl HG.out.2.1.blk ?_
      intro w7 hB7 hc7
      have HI := Lib.hid (And.intro (HG.out.1.aside HG.out.2.1 hc7) (And.intro (HG.out.2.1.put hB7) (HG.out.2.2.1.aside hc7 (by have := H8.out; omega))))
      refine hK.out _ _ (hHeld.chg hc7 (by have := HG.out.2.2.2; omega)) (fun hHeld2 => ?_)
      clear hB7 hc7 HG
      clear hK K
      try simp
      clear hHeld hHeld2
      refine wpAnyH_done (by kernel_rfl) ?_ _
      go_wp2_with fail
      go_roundw
      case rel => exact ⟨1, O4, _, by omega, rfl, rfl, HI.out⟩
      case measure => simp [intOf]
    · have hix : ∀ w, (Instr.index 66 (.agg #[.int .i64 (m : Int), .int .i64 (n : Int)]) (.int .i64 1)).run Try.prog w = .ok (.int .i64 (n : Int)) w := run_ix2 _ _ 1 (by omega)
      have hq : wr.rangeAt b8 53 [.int .i64 (F.at_ m).1, .int .u64 (F.at_ m).2.1, .int .u32 (F.at_ m).2.2] := hbv.blk.wyPtr 1 (by omega)
      have hbv' : Bx w wr Oq b8 71 (fw1 m n r F).cs.toArray := hbv
      have HD := Lib.hid (And.intro hs (And.intro hbv' hbz))
      clear hs hbv hbv' hbz
      have ha8 : (n : Int) < 8 := by omega
      have ha0 : (0 : Int) ≤ (n : Int) := by omega
      go_wp2_with (with_reducible refine ld_pq rfl _ rfl b8 53 (F.at_ m) rfl hq ?_)
      refine Calls.mono (HP1.out _ _ HD.out.1.at_) ?_
      rintro e w4 ⟨O4, rfl, hp4, hs4⟩
      have ha4 := HD.out.1.call hp4 hs4
      have hv4 := HD.out.2.1.step hs4
      have hz4 := HD.out.2.2.step hs4
      have HE := Lib.hid (And.intro (Bx.new ha4 67 zp8.cs.toArray) (And.intro (ha4.alloc (.cells zp8.cs.toArray 67)) (And.intro (hv4.alloc (.cells zp8.cs.toArray 67)) (And.intro (hz4.alloc (.cells zp8.cs.toArray 67)) hv4.lt))))
      clear HD ha4 hv4 hz4 hp4 hs4 hq
      generalize hb11 : w4.heap.size = b11 at *
      go_wp2_with (refine st_p8c rfl (.tmp 11) (.tmp 32) rfl b11 _ _ S rfl rfl HE.out.1.blk ?_; intro wb hBb hcb)
      have HE := Lib.hid (And.intro (HE.out.1.put hBb) (And.intro (HE.out.2.1.aside HE.out.1 hcb) (And.intro (HE.out.2.2.1.aside hcb (by have := HE.out.2.2.2.2; omega)) (And.intro (HE.out.2.2.2.1.aside hcb (by have := HE.out.2.2.2.2; have := H8.out; omega)) HE.out.2.2.2.2))))
      clear hBb hcb
      have hS : Blk wb.drew b11 67 S.cs.toArray := HE.out.1.drew.blk
      have HF := Lib.hid (And.intro HE.out.2.1.drew (And.intro HE.out.2.2.1.drew (And.intro HE.out.2.2.2.1.drew HE.out.2.2.2.2)))
      clear HE
      refine wp_region_held_drew (S := (fun w' => Blk w' b11 67 S.cs.toArray)) (by kernel_rfl) hS (fun hHeld => ?_)
      clear hS
      generalize wb.drew = wc at *
      refine wpAnyH_take (i := 0) (v := (.int .i64 1)) rfl (by kernel_rfl) (by kernel_rfl) (by kernel_rfl) (fun _ _ _ h => h) (Or.inl ⟨by rfl, ?_⟩) (by assumption) ?_
      · intro w' hS; go_simp; try with_reducible rfl
      try simp [Act.put]
      refine wpAnyH_take (i := 1) (v := (.int .i64 1)) rfl (by kernel_rfl) (by kernel_rfl) (by kernel_rfl) (fun _ _ _ h => h) (Or.inl ⟨by rfl, ?_⟩) (by assumption) ?_
      · intro w' hS; go_simp; try with_reducible rfl
      try simp [Act.put]
      refine wpAnyH_take (i := 2) (v := (.int .i64 2)) rfl (by kernel_rfl) (by kernel_rfl) (by kernel_rfl) (fun _ _ _ h => h) (Or.inl ⟨by rfl, ?_⟩) (by assumption) ?_
      · intro w' hS
        go_simp
        first | with_reducible rfl | rfl
      try simp [Act.put]
      refine wpAnyH_take (i := 3) (v := (.agg S.cs.toArray)) rfl (by kernel_rfl) (by kernel_rfl) (by kernel_rfl) (fun _ _ _ h => h) (Or.inl ⟨by rfl, ?_⟩) (by assumption) ?_
      · intro w' hS
        exact ex_ldP8c (.tmp 11) rfl b11 _ S rfl hS
      try simp [Act.put]
      refine wpAnyH_take (i := 4) (v := (.int .i64 (n : Int))) rfl (by kernel_rfl) (by kernel_rfl) (by kernel_rfl) (fun _ _ _ h => h) (Or.inl ⟨by rfl, ?_⟩) (by assumption) ?_
      · intro w' hS; go_simp; try with_reducible rfl
      try simp [Act.put]
      refine wpAnyH_take (i := 5) (v := (.pointer (some ⟨b11, n * 3, none⟩))) rfl (by kernel_rfl) (by kernel_rfl) (by kernel_rfl) (fun _ _ _ h => h) (Or.inl ⟨by rfl, ?_⟩) (by assumption) ?_
      · intro w' hS; go_simp; try with_reducible rfl
      try simp [Act.put]
      refine wpAnyH_take (i := 6) (v := (ptq (S.at_ n))) rfl (by kernel_rfl) (by kernel_rfl) (by kernel_rfl) (fun _ _ _ h => h) (Or.inl ⟨by rfl, ?_⟩) (by assumption) ?_
      · intro w' hS
        exact ex_ldPr (.tmp 43) rfl b11 (n * 3) (S.at_ n) rfl (hS.p8At n (by omega))
      try simp [Act.put]
      refine wpAnyH_take (i := 7) (v := (.pointer (some ⟨b8, 2, none⟩))) rfl (by kernel_rfl) (by kernel_rfl) (by kernel_rfl) (fun _ _ _ h => h) (Or.inl ⟨by rfl, ?_⟩) (by assumption) ?_
      · intro w' hS; go_simp; try with_reducible rfl
      try simp [Act.put]
      refine wpAnyH_take (i := 8) (v := (.pointer (some ⟨b8, 26, none⟩))) rfl (by kernel_rfl) (by kernel_rfl) (by kernel_rfl) (fun _ _ _ h => h) (Or.inl ⟨by rfl, ?_⟩) (by assumption) ?_
      · intro w' hS; go_simp; try with_reducible rfl
      try simp [Act.put]
      refine wpAnyH_take (i := 10) (v := (.pointer (some ⟨b8, 50, none⟩))) rfl (by kernel_rfl) (by kernel_rfl) (by kernel_rfl) (fun _ _ _ h => h) (Or.inl ⟨by rfl, ?_⟩) (by assumption) ?_
      · intro w' hS; go_simp; try with_reducible rfl
      try simp [Act.put]
      refine wpAnyH_ready (rs := [9]) (by kernel_rfl) (by simp) ?_
      refine AllReadyH.cons rfl (fun K hK => ?_) AllReadyH.nil
      refine step_stWn rfl (.tmp 46) (.tmp 41) rfl b8 _ (fw1 m n r F) 1 (by omega) S _ (by omega) rfl rfl HF.out.2.1.blk ?_
      intro w6 hB6 hc6
      have HG := Lib.hid (And.intro (HF.out.1.aside HF.out.2.1 hc6) (And.intro (HF.out.2.1.put hB6) (And.intro (HF.out.2.2.1.aside hc6 (by have := H8.out; omega)) HF.out.2.2.2)))
      refine hK.out _ _ (hHeld.chg hc6 (by have := HF.out.2.2.2; omega)) (fun hHeld2 => ?_)
      clear hB6 hc6 HF
      clear hK K
      try simp
      clear hHeld
      have hHeld := hHeld2
      clear hHeld2
      refine wpAnyH_take (i := 11) (v := (.pointer (some ⟨b8, 56, none⟩))) rfl (by kernel_rfl) (by kernel_rfl) (by kernel_rfl) (fun _ _ _ h => h) (Or.inl ⟨by rfl, ?_⟩) (by assumption) ?_
      · intro w' hS; go_simp; try with_reducible rfl
      try simp [Act.put]
      refine wpAnyH_ready (rs := [12]) (by kernel_rfl) (by simp) ?_
      refine AllReadyH.cons rfl (fun K hK => ?_) AllReadyH.nil
      refine step_stWp rfl (.tmp 48) (.tmp 44) rfl b8 _ _ 2 (by omega) (S.at_ n) _ (by omega) rfl rfl HG.out.2.1.blk ?_
      intro w7 hB7 hc7
      have HI := Lib.hid (And.intro (HG.out.1.aside HG.out.2.1 hc7) (And.intro (HG.out.2.1.put hB7) (HG.out.2.2.1.aside hc7 (by have := H8.out; omega))))
      refine hK.out _ _ (hHeld.chg hc7 (by have := HG.out.2.2.2; omega)) (fun hHeld2 => ?_)
      clear hB7 hc7 HG
      clear hK K
      try simp
      clear hHeld hHeld2
      refine wpAnyH_done (by kernel_rfl) ?_ _
      go_wp2_with fail
      go_roundw
      case rel => exact ⟨2, O4, _, by omega, rfl, rfl, HI.out⟩
      case measure => simp [intOf]
    · have hbv' : Bx w wr Oq b8 71 (fw2 m n r F S).cs.toArray := hbv
      have HD := Lib.hid (And.intro hs (And.intro hbv' hbz))
      clear hs hbv hbv' hbz
      go_wp2_with (first
        | (with_reducible refine ld_wy rfl (.tmp 8) rfl b8 0 (fw2 m n r F S) rfl HD.out.2.1.blk.wyIs ?_)
        | (refine st_wyc rfl (.tmp 6) (.tmp 50) rfl (w.heap.size + 1) _ _ (fw2 m n r F S) rfl rfl HD.out.2.2.blk ?_; intro w3 hB3 hc3))
      have ha3 := HD.out.1.aside HD.out.2.2 hc3
      exact bodyPost_ret (ret_wy rfl hB3 rfl) rfl ⟨Oq, rfl, ha3.at_, ha3.st⟩
end
end
section
open Go.RowKit

section
variable {w : World} {O : Nat → Prop} {g : Nat} {P : Pw} {root : PtrV} {F : P8} {S : Nat → P8} {T : Nat → Sec}
theorem tfind (h : PileAt w O g P) (ok : OkW P) (t : Tree P root F S T) (i : Nat) (hi : i < 64) :
    Calls Try.prog 26 #[.pointer (some ⟨g, 0, none⟩), ptq root, .int .i64 (i : Int)] w
      fun e w' => ∃ O', e = .returned (.tuple #[.agg (fw2 (i / 8) (i % 8) root F (S (i / 8))).cs.toArray, .int .i64 0]) ∧ PileAt w' O' g P ∧ Step w w' O O' := by
  have hk : i / 8 < 8 := by omega
  have b0 := back8 t.fok t.fall
  have b1 := back8 (t.sok _ hk) (t.sall _ hk)
  exact find_any h root i hi _ _ rfl rfl (nbS F) (nbS (S (i / 8))) F (S (i / 8)) (t.top.get ok) b0.2.2 b0.2.1 ((t.mid _ hk).get ok) b1.2.2 b1.2.1
theorem has_yes (i : Nat) (hi : i < 64) (w : World) : Calls Try.prog 25 #[.int .i64 (i : Int)] w fun e w' => e = .returned (.bool true) ∧ Below w.heap.size w w' := by
  have h := thas_any (i : Int) w
  rwa [show decide (0 ≤ (i : Int) ∧ (i : Int) < 64) = true by simp; omega] at h
theorem has_no (i : Int) (hi : ¬ (0 ≤ i ∧ i < 64)) (w : World) : Calls Try.prog 25 #[.int .i64 i] w fun e w' => e = .returned (.bool false) ∧ Below w.heap.size w w' := by
  have h := thas_any i w
  rwa [show decide (0 ≤ i ∧ i < 64) = false from decide_eq_false hi] at h
set_option maxHeartbeats 2000000 in
theorem tget_any (h : PileAt w O g P) (ok : OkW P) (t : Tree P root F S T) (i : Nat) (hi : i < 64) :
    Calls Try.prog 8 #[.pointer (some ⟨g, 0, none⟩), ptq root, .int .i64 (i : Int)] w fun e w' => ∃ O', e = .returned (.tuple #[.agg (T i).cs.toArray, .int .i64 0]) ∧ PileAt w' O' g P ∧ Step w w' O O' := by
  obtain ⟨W, hW, hs, hbr, hbz⟩ := two_new (Sta.first h) 32 23 (pcs root.1 root.2.1 root.2.2) zsec.cs.toArray
  have HA := Lib.hid (And.intro hs (And.intro hbr hbz))
  have HH := Lib.hid (has_yes i hi)
  have HF : Hid (∀ w O, PileAt w O g P → _) := Lib.hid fun w O (h : PileAt w O g P) => tfind h ok t i hi
  have HG : Hid (∀ w O, PileAt w O g P → Calls Try.prog 27 #[.pointer (some ⟨g, 0, none⟩), ptq (blkQ S i)] w fun e w' => ∃ O', e = .returned (.tuple #[.agg (T i).cs.toArray, .int .i64 0]) ∧ PileAt w' O' g P ∧ Step w w' O O') := Lib.hid fun w O h => by
    have := pileGet h (blkQ S i)
    rwa [show getS P (blkQ S i) = (T i, 0) from (t.blk i hi).get ok] at this
  have HK := Lib.hid (block_any (fw2 (i / 8) (i % 8) root F (S (i / 8))))
  have hz : ∀ w, Sem.run Try.prog (zeroValue 71) w = .ok (.agg zwy.cs.toArray) w := zeroWy
  have hzs : ∀ w, Sem.run Try.prog (zeroValue 23) w = .ok (.agg zsec.cs.toArray) w := zeroSec
  obtain ⟨v, hv⟩ : ∃ v, v = fw2 (i / 8) (i % 8) root F (S (i / 8)) := ⟨_, rfl⟩
  obtain ⟨x, hx⟩ : ∃ x, x = T i := ⟨_, rfl⟩
  have hp2 : (fw2 (i / 8) (i % 8) root F (S (i / 8))).p2 = blkQ S i := rfl
  rw [hp2, ← hv] at HK
  rw [← hv] at HF
  rw [← hx] at HG ⊢
  generalize blkQ S i = q at *
  clear h hs hbr hbz ok t hp2 hv hx
  go_enter Try.func8, Try.ntmps8
  go_upto_region 1 with (fail)
  rw [← hW]
  clear hW
  go_wp2_with fail
  refine Calls.mono (HH.out _) ?_
  rintro e w2 ⟨rfl, hb2⟩
  have HB := Lib.hid (And.intro (HA.out.1.far hb2) (And.intro (HA.out.2.1.later hb2) (HA.out.2.2.later hb2)))
  clear HA HH hb2
  go_wp2_with (with_reducible refine ld_ptr rfl (.tmp 4) rfl w.heap.size 32 root.1 root.2.1 root.2.2 rfl HB.out.2.1.blk ?_)
  refine Calls.mono (HF.out _ _ HB.out.1.at_) ?_
  rintro e w3 ⟨O3, rfl, hp3, hs3⟩
  have ha3 := HB.out.1.call hp3 hs3
  have hr3 := HB.out.2.2.step hs3
  have HC := Lib.hid (And.intro (Bx.new ha3 71 zwy.cs.toArray) (And.intro (ha3.alloc (.cells zwy.cs.toArray 71)) (And.intro (hr3.alloc (.cells zwy.cs.toArray 71)) hr3.lt)))
  clear HB HF ha3 hr3 hp3 hs3
  go_wp2_with (first
    | (refine st_wyc rfl (.tmp 8) (.tmp 19) rfl w3.heap.size _ _ v rfl rfl HC.out.1.blk ?_; intro w4 hB4 hc4)
    | (with_reducible refine ld_wy rfl (.tmp 8) rfl w3.heap.size 0 v rfl hB4.wyIs ?_))
  refine Calls.mono (HK.out _) ?_
  rintro e w5 ⟨rfl, hb5⟩
  have ha5 := (HC.out.2.1.aside HC.out.1 hc4).far hb5
  have hr5 := (HC.out.2.2.1.aside hc4 (by have := HC.out.2.2.2; omega)).later hb5
  have HD := Lib.hid (And.intro ha5 hr5)
  clear HC hb5 hB4 hc4 ha5 hr5 HK
  go_wp2_with fail
  refine Calls.mono (HG.out _ _ HD.out.1.at_) ?_
  rintro e w6 ⟨O6, rfl, hp6, hs6⟩
  have HE := Lib.hid (And.intro (HD.out.1.call hp6 hs6) (HD.out.2.step hs6))
  clear HD HG hp6 hs6
  go_wp2_with (refine st_sec2 rfl (.tmp 6) (.tmp 29) rfl (w.heap.size + 1) _ x rfl rfl HE.out.2.blk ?_; intro w7 hB7 hc7)
  have ha7 := HE.out.1.aside HE.out.2 hc7
  exact bodyPost_ret (ret_sec rfl hB7 rfl) rfl ⟨O6, rfl, ha7.at_, ha7.st⟩
set_option maxHeartbeats 2000000 in
theorem tgetNo_any (h : PileAt w O g P) (i : Int) (hi : ¬ (0 ≤ i ∧ i < 64)) :
    Calls Try.prog 8 #[.pointer (some ⟨g, 0, none⟩), ptq root, .int .i64 i] w fun e w' => ∃ O', e = .returned (.tuple #[.agg zsec.cs.toArray, .int .i64 111]) ∧ PileAt w' O' g P ∧ Step w w' O O' := by
  obtain ⟨W, hW, hs, hbr, hbz⟩ := two_new (Sta.first h) 32 23 (pcs root.1 root.2.1 root.2.2) zsec.cs.toArray
  have HA := Lib.hid (And.intro hs (And.intro hbr hbz))
  have HH := Lib.hid (has_no i hi)
  have hzs : ∀ w, Sem.run Try.prog (zeroValue 23) w = .ok (.agg zsec.cs.toArray) w := zeroSec
  have hbd : ∀ w, (Instr.build 23 #[]).run Try.prog w = .ok (.agg zsec.cs.toArray) w := buildZ
  clear h hs hbr hbz hi
  go_enter Try.func8, Try.ntmps8
  go_upto_region 1 with (fail)
  rw [← hW]
  clear hW
  go_wp2_with fail
  refine Calls.mono (HH.out _) ?_
  rintro e w2 ⟨rfl, hb2⟩
  have HB := Lib.hid (And.intro (HA.out.1.far hb2) (HA.out.2.2.later hb2))
  clear HA HH hb2
  go_wp2_with (refine st_sec2 rfl (.tmp 6) (.tmp 13) rfl (w.heap.size + 1) _ zsec rfl rfl HB.out.2.blk ?_; intro w7 hB7 hc7)
  have ha7 := HB.out.1.aside HB.out.2 hc7
  exact bodyPost_ret (ret_sec rfl hB7 rfl) rfl ⟨O, rfl, ha7.at_, ha7.st⟩
end
end
section
open Go.RowKit

section
variable {w w1 w' w'' : World} {O O' : Nat → Prop} {g b i : Nat} {P : Pw} {root q : PtrV} {F : P8} {S : Nat → P8} {T : Nat → Sec} {x : Sec} {A : Option Addr} {xs : List Value}
theorem RdF.aside (h : RdF w1 w' O' A xs) (c : Chg w' w'' (· = b)) (hb : b < w1.heap.size) (hle : w.heap.size ≤ w1.heap.size) : RdF w w'' O' A xs :=
  ⟨⟨fun hn => by
    obtain ⟨b', off, e, hl, hc⟩ := h.rd hn
    exact ⟨b', off, e, Nat.lt_of_lt_of_le hl c.size, fun j v hv => (c.cell hl (fun e2 => by have := h.fresh b' off e hn; omega) _).trans (hc j v hv)⟩, h.apart⟩,
    fun b' off e hn => Nat.le_trans hle (h.fresh b' off e hn)⟩
theorem putC_yes (ok : OkW P) {l : List UInt8} (hl : l.length ≤ 128) (hc : 0 < P.m.count) : putC P l = 0 := (put_grew ok hl hc).1
/-- What a turn of a tree asks of its nodes. -/
theorem turn_asks (ok : OkW P) (t : Tree P root F S T) (hq : Held P q x) (hi : i < 64) (hc : need F S i q ≤ P.m.count) :
    ((newS S i q).ok ∧ all8 (newS S i q) = true) ∧ (emptyF (newS S i q) = false → putC P (nbS (newS S i q)).l = 0) ∧ ((newF P F S i q).ok ∧ all8 (newF P F S i q) = true) ∧ (emptyF (newF P F S i q) = false → putC (midP P S i q) (nbS (newF P F S i q)).l = 0) ∧ (midP P S i q).N ≤ P.N + 1 := by
  have hi8 : i / 8 < 8 := by omega
  have s12 := set_all (t.sok _ hi8) (t.sall _ hi8) (hq.right ok) (i % 8)
  have hc1 : emptyF (newS S i q) = false → 2 ≤ P.m.count := fun h => by
    unfold need at hc
    rw [h] at hc
    simpa using hc
  obtain ⟨g1, h1, n1⟩ : Grew P (midP P S i q) (midQ P S i q) ∧ Held (midP P S i q) (midQ P S i q) (nbS (newS S i q)) ∧ (midQ P S i q = hole0 ↔ emptyF (newS S i q) = true) := putN_grew ok (newS S i q) fun h => by have := hc1 h; omega
  have f12 := set_all t.fok t.fall (h1.right g1.ok) (i / 8)
  have hc2 : emptyF (newF P F S i q) = false → 0 < (midP P S i q).m.count := fun h => by
    have hcnt : (midP P S i q).m.count + cN (midQ P S i q) = P.m.count := g1.cnt
    cases he : emptyF (newS S i q) with
    | false =>
      have := hc1 he
      have h1 : cN (midQ P S i q) ≤ 1 := by unfold cN; split <;> omega
      omega
    | true =>
      have hm : midQ P S i q = hole0 := n1.2 he
      rw [hm, cN_hole] at hcnt
      have hF : newF P F S i q = F.set (i / 8) hole0 := by unfold newF; rw [hm]
      rw [hF] at h
      unfold need at hc
      rw [he, h] at hc
      simp at hc
      omega
  exact ⟨s12, fun h => putC_yes ok (by rw [(nbS _).h]; omega) (by have := hc1 h; omega), f12, fun h => putC_yes g1.ok (by rw [(nbS _).h]; omega) (hc2 h), g1.N⟩
theorem tturn (h : PileAt w O g P) (ok : OkW P) (t : Tree P root F S T) (hq : Held P q x) (hi : i < 64) (hc : need F S i q ≤ P.m.count) (hN : P.N ≤ 999999) :
    Calls Try.prog 34 #[.agg (fw2 (i / 8) (i % 8) root F (S (i / 8))).cs.toArray, .pointer (some ⟨g, 0, none⟩), ptq q] w
      fun e w' => ∃ O' B d, e = .returned (.tuple #[ptq (turnQ P F S i q), .slice B (oldL F S root i).length d, .int .i64 0]) ∧ PileAt w' O' g (turnP P F S i q) ∧ RdF w w' O' B (pqs (oldL F S root i)) ∧ Step w w' O O' := by
  obtain ⟨k1, c1, k0, c0, hN1⟩ := turn_asks ok t hq hi hc
  exact tturn_any h (fw2 (i / 8) (i % 8) root F (S (i / 8))) (by show i / 8 < 8; omega) (by show i % 8 < 8; omega) q (newS S i q) (newF P F S i q) rfl rfl k1 c1 k0 c0 (by omega) (Nat.le_trans hN1 (by omega))
theorem tmap_any (h : PileAt w O g P) : ∃ gm, Calls Try.prog 19 #[.pointer (some ⟨g, 0, none⟩)] w fun e w' => e = .returned (.pointer (some ⟨gm, 0, none⟩)) ∧ Below w.heap.size w w' ∧
    ∀ w2, Below w'.heap.size w' w2 → Calls Try.prog 23 #[.pointer (some ⟨gm, 0, none⟩)] w2 (fun e w3 => e = .returned (.int .i64 (P.m.count : Int)) ∧ Below w2.heap.size w2 w3) ∧
      Calls Try.prog 20 #[.pointer (some ⟨gm, 0, none⟩)] w2 (fun e w3 => ∃ A c, e = .returned (.slice A (canon (stS P.m 1)).length c) ∧ Rd w3 w3.heap.size A (spc (canon (stS P.m 1))) ∧ Below w2.heap.size w2 w3) := by
  obtain ⟨B, D, pv, gm, s, hp, hO⟩ := h.ex
  exact ⟨gm, (map0_any hp).mono fun e w' ⟨e1, hb⟩ => ⟨e1, hb, fun w2 hb2 => ⟨mcount_any ((hp.map.far hb).far hb2), (taken_any ((hp.map.far hb).far hb2)).mono fun e w3 ⟨A, c, e2, h3, h4⟩ => ⟨A, c, e2, h3.rd, h4⟩⟩⟩⟩
set_option maxHeartbeats 4000000 in
theorem tset_any (h : PileAt w O g P) (ok : OkW P) (t : Tree P root F S T) (i : Nat) (hi : i < 64) (A : Option Addr) (c : Nat) (l : List UInt8) (hr : RdA w O A (bys l)) (hl : l.length ≤ 128) (hc : 3 ≤ P.m.count) (hN : P.N ≤ 900000) :
    Calls Try.prog 12 #[.pointer (some ⟨g, 0, none⟩), ptq root, .int .i64 (i : Int), .slice A l.length c] w
      fun e w' => ∃ O' B d, e = .returned (.tuple #[ptq (setQ P F S i l), .slice B (oldL F S root i).length d, .int .i64 0]) ∧ PileAt w' O' g (setP P F S i l) ∧ RdF w w' O' B (pqs (oldL F S root i)) ∧ Step w w' O O' := by
  obtain ⟨W, hW, hs, hbr, hbz⟩ := two_new (Sta.first h) 32 32 (pcs root.1 root.2.1 root.2.2) (pcs 0 0 0)
  obtain ⟨hpc, gr, hq, _⟩ := put_grew ok hl (by omega)
  have hcn := gr.cnt
  have hc1 : cN (putQ P l) ≤ 1 := by unfold cN; split <;> omega
  have HA := Lib.hid (And.intro hs (And.intro hbr hbz))
  have HH := Lib.hid (has_yes i hi)
  have HF : Hid (∀ w O, PileAt w O g P → _) := Lib.hid fun w O (h : PileAt w O g P) => tfind h ok t i hi
  have HM : Hid (∀ w O, PileAt w O g P → _) := Lib.hid fun w O (h : PileAt w O g P) => tmap_any h
  have HP : Hid (∀ w' O', PileAt w' O' g P → Step w w' O O' → Calls Try.prog 35 #[.pointer (some ⟨g, 0, none⟩), .slice A l.length c] w' fun e w'' => ∃ O'', e = .returned (.tuple #[ptq (putQ P l), .int .i64 0]) ∧ PileAt w'' O'' g (putP P l) ∧ Step w' w'' O' O'') := Lib.hid fun w' O' h s => by
    have := pilePut A c l h (hr.step s) (by omega) (by omega)
    rwa [hpc] at this
  have HT : Hid (∀ w O, PileAt w O g (putP P l) → _) := Lib.hid fun w O (h : PileAt w O g (putP P l)) => tturn h gr.ok (t.grew gr) hq hi (by have := need_le F S i (putQ P l); omega) (by have := gr.N; omega)
  have hz : ∀ w, Sem.run Try.prog (zeroValue 71) w = .ok (.agg zwy.cs.toArray) w := zeroWy
  have hzp : ∀ w, Sem.run Try.prog (zeroValue 32) w = .ok (ptv 0 0 0) w := zeroPtr8
  have hl128 : ¬ (128 : Int) < (l.length : Int) := by omega
  have hc3 : ¬ (P.m.count : Int) < 3 := by omega
  obtain ⟨v, hv⟩ : ∃ v, v = fw2 (i / 8) (i % 8) root F (S (i / 8)) := ⟨_, rfl⟩
  rw [← hv] at HF HT
  unfold setQ setP
  generalize turnQ (putP P l) F S i (putQ P l) = q2 at *
  generalize turnP (putP P l) F S i (putQ P l) = P2 at *
  generalize putQ P l = q at *
  generalize putP P l = P1 at *
  generalize oldL F S root i = L at *
  clear hr ok t hpc gr hq hcn hc1 hv hs hbr hbz h hc hl hN
  go_enter Try.func12, Try.ntmps12
  go_upto_region 1 with (fail)
  rw [← hW]
  clear hW
  go_wp2_with fail
  refine Calls.mono (HH.out _) ?_
  rintro e w2 ⟨rfl, hb2⟩
  have HB := Lib.hid (And.intro (HA.out.1.far hb2) (And.intro (HA.out.2.1.later hb2) (HA.out.2.2.later hb2)))
  clear HA HH hb2
  go_wp2_with (with_reducible refine ld_ptr rfl (.tmp 5) rfl w.heap.size 32 root.1 root.2.1 root.2.2 rfl HB.out.2.1.blk ?_)
  refine Calls.mono (HF.out _ _ HB.out.1.at_) ?_
  rintro e w3 ⟨O3, rfl, hp3, hs3⟩
  have ha3 := HB.out.1.call hp3 hs3
  have hr3 := HB.out.2.2.step hs3
  have HC := Lib.hid (And.intro (Bx.new ha3 71 zwy.cs.toArray) (And.intro (ha3.alloc (.cells zwy.cs.toArray 71)) (And.intro (hr3.alloc (.cells zwy.cs.toArray 71)) hr3.lt)))
  clear HB HF ha3 hr3 hp3 hs3
  go_wp2_with (refine st_wyc rfl (.tmp 11) (.tmp 29) rfl w3.heap.size _ _ v rfl rfl HC.out.1.blk ?_; intro w4 hB4 hc4)
  have hl3 := HC.out.2.2.2
  have HD := Lib.hid (And.intro (HC.out.2.1.aside HC.out.1 hc4) (And.intro (HC.out.1.put hB4) (And.intro (HC.out.2.2.1.aside hc4 (by omega)) hl3)))
  clear HC hB4 hc4
  obtain ⟨gm, hgm⟩ := HM.out _ _ HD.out.1.at_
  refine Calls.mono hgm ?_
  rintro e w5 ⟨rfl, hb5, hm5⟩
  clear hgm HM
  have HE := Lib.hid (And.intro (HD.out.1.far hb5) (And.intro (HD.out.2.1.later hb5) (HD.out.2.2.1.later hb5)))
  have HM := Lib.hid (hm5 _ (Below.refl _ _)).1
  clear HD hb5 hm5
  go_wp2_with fail
  refine Calls.mono HM.out ?_
  rintro e w6 ⟨rfl, hb6⟩
  have HG := Lib.hid (And.intro (HE.out.1.far hb6) (And.intro (HE.out.2.1.later hb6) (HE.out.2.2.later hb6)))
  clear HE HM hb6
  go_wp2_with fail
  refine Calls.mono (HP.out _ _ HG.out.1.at_ HG.out.1.st) ?_
  rintro e w7 ⟨O7, rfl, hp7, hs7⟩
  have ha7 := HG.out.1.call hp7 hs7
  have hv7 := HG.out.2.1.step hs7
  have hr7 := HG.out.2.2.step hs7
  have HI := Lib.hid (And.intro (Bx.new ha7 32 (pcs 0 0 0)) (And.intro (ha7.alloc (.cells (pcs 0 0 0) 32)) (And.intro (hv7.alloc (.cells (pcs 0 0 0) 32)) (And.intro (hr7.alloc (.cells (pcs 0 0 0) 32)) (And.intro hv7.lt hr7.lt)))))
  clear HG HP ha7 hv7 hr7 hp7 hs7
  go_wp2_with (first
    | (refine st_pt2 rfl (.tmp 13) (.tmp 44) rfl w7.heap.size _ q.1 q.2.1 q.2.2 rfl rfl HI.out.1.blk rfl ?_; intro w8 hB8 hk8; have hv8 := (HI.out.2.2.1.aside (hk8 (· = w7.heap.size) rfl) (by have := HI.out.2.2.2.2.1; omega)).blk.wyIs)
    | (with_reducible refine ld_wy rfl (.tmp 11) rfl w3.heap.size 0 v rfl hv8 ?_)
    | (with_reducible refine ld_ptr rfl (.tmp 13) rfl w7.heap.size 32 q.1 q.2.1 q.2.2 rfl hB8 ?_))
  have hc8 := hk8 (· = w7.heap.size) rfl
  have HJ := Lib.hid (And.intro (HI.out.2.1.aside HI.out.1 hc8) (And.intro (HI.out.2.2.2.1.aside hc8 (by have := HI.out.2.2.2.2.2; omega)) HI.out.2.2.2.2.2))
  clear HI hB8 hk8 hc8 hv8
  have HL8 := Lib.hid (And.intro HJ.out.2.1.lt HJ.out.1.size)
  refine Calls.mono (HT.out _ _ HJ.out.1.at_) ?_
  rintro e w9 ⟨O9, B, d, rfl, hp9, hrd9, hs9⟩
  have HK := Lib.hid (And.intro (HJ.out.1.call hp9 hs9) (And.intro (HJ.out.2.1.step hs9) hrd9))
  clear HJ HT hp9 hs9 hrd9
  go_wp2_with (refine st_pt2 rfl (.tmp 8) (.tmp 54) rfl (w.heap.size + 1) _ q2.1 q2.2.1 q2.2.2 rfl rfl HK.out.2.1.blk rfl ?_; intro wa hBa hka)
  have hca := hka (· = w.heap.size + 1) rfl
  have haa := HK.out.1.aside HK.out.2.1 hca
  exact bodyPost_ret (ret_ptr3 rfl hBa rfl) rfl ⟨O9, B, d, rfl, haa.at_, HK.out.2.2.aside hca HL8.out.1 HL8.out.2, haa.st⟩
end
end
section
open Go.RowKit

section
variable {w w1 w' w'' : World} {O O' : Nat → Prop} {g b i : Nat} {P : Pw} {root q : PtrV} {F : P8} {S : Nat → P8} {T : Nat → Sec} {x : Sec} {A : Option Addr} {xs : List Value}
set_option maxHeartbeats 2000000 in
theorem tsetNo_any (h : PileAt w O g P) (i : Int) (A : Option Addr) (n c : Nat) (hi : ¬ (0 ≤ i ∧ i < 64)) :
    Calls Try.prog 12 #[.pointer (some ⟨g, 0, none⟩), ptq root, .int .i64 i, .slice A n c] w fun e w' => ∃ O' B d, e = .returned (.tuple #[ptq root, .slice B 0 d, .int .i64 111]) ∧ PileAt w' O' g P ∧ Step w w' O O' := by
  obtain ⟨W, hW, hs, hbr, hbz⟩ := two_new (Sta.first h) 32 32 (pcs root.1 root.2.1 root.2.2) (pcs 0 0 0)
  have HA := Lib.hid (And.intro hs (And.intro hbr hbz))
  have HH := Lib.hid (has_no i hi)
  have hzp : ∀ w, Sem.run Try.prog (zeroValue 32) w = .ok (ptv 0 0 0) w := zeroPtr8
  clear h hs hbr hbz hi
  go_enter Try.func12, Try.ntmps12
  go_upto_region 1 with (fail)
  rw [← hW]
  clear hW
  go_wp2_with fail
  refine Calls.mono (HH.out _) ?_
  rintro e w2 ⟨rfl, hb2⟩
  have HB := Lib.hid (And.intro (HA.out.1.far hb2) (And.intro (HA.out.2.1.later hb2) (HA.out.2.2.later hb2)))
  clear HA HH hb2
  go_wp2_with (first
    | (with_reducible refine ld_ptr rfl (.tmp 5) rfl w.heap.size 32 root.1 root.2.1 root.2.2 rfl HB.out.2.1.blk ?_)
    | (refine st_pt2 rfl (.tmp 8) (.tmp 18) rfl (w.heap.size + 1) _ root.1 root.2.1 root.2.2 rfl rfl HB.out.2.2.blk rfl ?_; intro w4 hB4 hk4))
  have ha4 := HB.out.1.aside HB.out.2.2 (hk4 (· = w.heap.size + 1) rfl)
  exact bodyPost_ret (ret_ptr3 rfl hB4 rfl) rfl ⟨O, none, 0, rfl, ha4.at_, ha4.st⟩
set_option maxHeartbeats 2000000 in
theorem tsetLong_any (h : PileAt w O g P) (i : Nat) (hi : i < 64) (A : Option Addr) (n c : Nat) (hn : 128 < n) :
    Calls Try.prog 12 #[.pointer (some ⟨g, 0, none⟩), ptq root, .int .i64 (i : Int), .slice A n c] w fun e w' => ∃ O' B d, e = .returned (.tuple #[ptq root, .slice B 0 d, .int .i64 92]) ∧ PileAt w' O' g P ∧ Step w w' O O' := by
  obtain ⟨W, hW, hs, hbr, hbz⟩ := two_new (Sta.first h) 32 32 (pcs root.1 root.2.1 root.2.2) (pcs 0 0 0)
  have HA := Lib.hid (And.intro hs (And.intro hbr hbz))
  have HH := Lib.hid (has_yes i hi)
  have hzp : ∀ w, Sem.run Try.prog (zeroValue 32) w = .ok (ptv 0 0 0) w := zeroPtr8
  have hl128 : (128 : Int) < (n : Int) := by omega
  clear h hs hbr hbz hi hn
  go_enter Try.func12, Try.ntmps12
  go_upto_region 1 with (fail)
  rw [← hW]
  clear hW
  go_wp2_with fail
  refine Calls.mono (HH.out _) ?_
  rintro e w2 ⟨rfl, hb2⟩
  have HB := Lib.hid (And.intro (HA.out.1.far hb2) (And.intro (HA.out.2.1.later hb2) (HA.out.2.2.later hb2)))
  clear HA HH hb2
  go_wp2_with (first
    | (with_reducible refine ld_ptr rfl (.tmp 5) rfl w.heap.size 32 root.1 root.2.1 root.2.2 rfl HB.out.2.1.blk ?_)
    | (refine st_pt2 rfl (.tmp 8) (.tmp 23) rfl (w.heap.size + 1) _ root.1 root.2.1 root.2.2 rfl rfl HB.out.2.2.blk rfl ?_; intro w4 hB4 hk4))
  have ha4 := HB.out.1.aside HB.out.2.2 (hk4 (· = w.heap.size + 1) rfl)
  exact bodyPost_ret (ret_ptr3 rfl hB4 rfl) rfl ⟨O, none, 0, rfl, ha4.at_, ha4.st⟩
set_option maxHeartbeats 2000000 in
theorem ttrimNo_any (h : PileAt w O g P) (i : Int) (hi : ¬ (0 ≤ i ∧ i < 64)) :
    Calls Try.prog 11 #[.pointer (some ⟨g, 0, none⟩), ptq root, .int .i64 i] w fun e w' => ∃ O' B d, e = .returned (.tuple #[ptq root, .slice B 0 d, .int .i64 111]) ∧ PileAt w' O' g P ∧ Step w w' O O' := by
  obtain ⟨W, hW, hs, hbr, hbz⟩ := two_new (Sta.first h) 32 32 (pcs root.1 root.2.1 root.2.2) (pcs 0 0 0)
  have HA := Lib.hid (And.intro hs (And.intro hbr hbz))
  have HH := Lib.hid (has_no i hi)
  have hzp : ∀ w, Sem.run Try.prog (zeroValue 32) w = .ok (ptv 0 0 0) w := zeroPtr8
  clear h hs hbr hbz hi
  go_enter Try.func11, Try.ntmps11
  go_upto_region 1 with (fail)
  rw [← hW]
  clear hW
  go_wp2_with fail
  refine Calls.mono (HH.out _) ?_
  rintro e w2 ⟨rfl, hb2⟩
  have HB := Lib.hid (And.intro (HA.out.1.far hb2) (And.intro (HA.out.2.1.later hb2) (HA.out.2.2.later hb2)))
  clear HA HH hb2
  go_wp2_with (first
    | (with_reducible refine ld_ptr rfl (.tmp 4) rfl w.heap.size 32 root.1 root.2.1 root.2.2 rfl HB.out.2.1.blk ?_)
    | (refine st_pt2 rfl (.tmp 6) (.tmp 14) rfl (w.heap.size + 1) _ root.1 root.2.1 root.2.2 rfl rfl HB.out.2.2.blk rfl ?_; intro w4 hB4 hk4))
  have ha4 := HB.out.1.aside HB.out.2.2 (hk4 (· = w.heap.size + 1) rfl)
  exact bodyPost_ret (ret_ptr3 rfl hB4 rfl) rfl ⟨O, none, 0, rfl, ha4.at_, ha4.st⟩
set_option maxHeartbeats 4000000 in
theorem ttrim0_any (h : PileAt w O g P) (ok : OkW P) (t : Tree P root F S T) (i : Nat) (hi : i < 64) (hq : blkQ S i = hole0) :
    Calls Try.prog 11 #[.pointer (some ⟨g, 0, none⟩), ptq root, .int .i64 (i : Int)] w
      fun e w' => ∃ O' B d, e = .returned (.tuple #[ptq (root), .slice B 0 d, .int .i64 0]) ∧ PileAt w' O' g (P) ∧ Step w w' O O' := by
  obtain ⟨W, hW, hs, hbr, hbz⟩ := two_new (Sta.first h) 32 32 (pcs root.1 root.2.1 root.2.2) (pcs 0 0 0)
  have HA := Lib.hid (And.intro hs (And.intro hbr hbz))
  have HH := Lib.hid (has_yes i hi)
  have HF : Hid (∀ w O, PileAt w O g P → _) := Lib.hid fun w O (h : PileAt w O g P) => tfind h ok t i hi
  have HK := Lib.hid (block_any (fw2 (i / 8) (i % 8) root F (S (i / 8))))
  have hz : ∀ w, Sem.run Try.prog (zeroValue 71) w = .ok (.agg zwy.cs.toArray) w := zeroWy
  have hzp : ∀ w, Sem.run Try.prog (zeroValue 32) w = .ok (ptv 0 0 0) w := zeroPtr8
  obtain ⟨v, hv⟩ : ∃ v, v = fw2 (i / 8) (i % 8) root F (S (i / 8)) := ⟨_, rfl⟩
  have hp2 : (fw2 (i / 8) (i % 8) root F (S (i / 8))).p2 = blkQ S i := rfl
  have hh : holeF (blkQ S i).1 (blkQ S i).2.1 (blkQ S i).2.2 = true := hole_iff.2 hq
  have HO := fun w => thole_any (blkQ S i).1 (blkQ S i).2.1 (blkQ S i).2.2 w
  rw [hh] at HO
  have HO := Lib.hid HO
  rw [hp2, ← hv] at HK
  rw [← hv] at HF
  generalize blkQ S i = q at *
  clear h hs hbr hbz ok t hp2 hv hq hh
  go_enter Try.func11, Try.ntmps11
  go_upto_region 1 with (fail)
  rw [← hW]
  clear hW
  go_wp2_with fail
  refine Calls.mono (HH.out _) ?_
  rintro e w2 ⟨rfl, hb2⟩
  have HB := Lib.hid (And.intro (HA.out.1.far hb2) (And.intro (HA.out.2.1.later hb2) (HA.out.2.2.later hb2)))
  clear HA HH hb2
  go_wp2_with (with_reducible refine ld_ptr rfl (.tmp 4) rfl w.heap.size 32 root.1 root.2.1 root.2.2 rfl HB.out.2.1.blk ?_)
  refine Calls.mono (HF.out _ _ HB.out.1.at_) ?_
  rintro e w3 ⟨O3, rfl, hp3, hs3⟩
  have ha3 := HB.out.1.call hp3 hs3
  have hr3 := HB.out.2.2.step hs3
  have hq3 := HB.out.2.1.step hs3
  have HC := Lib.hid (And.intro (Bx.new ha3 71 zwy.cs.toArray) (And.intro (ha3.alloc (.cells zwy.cs.toArray 71)) (And.intro (hr3.alloc (.cells zwy.cs.toArray 71)) (And.intro (hq3.alloc (.cells zwy.cs.toArray 71)) hr3.lt))))
  clear HB HF ha3 hr3 hq3 hp3 hs3
  go_wp2_with (first
    | (refine st_wyc rfl (.tmp 9) (.tmp 20) rfl w3.heap.size _ _ v rfl rfl HC.out.1.blk ?_; intro w4 hB4 hc4)
    | (with_reducible refine ld_wy rfl (.tmp 9) rfl w3.heap.size 0 v rfl hB4.wyIs ?_))
  have hl3 := HC.out.2.2.2.2
  have HD := Lib.hid (And.intro (HC.out.2.1.aside HC.out.1 hc4) (And.intro (HC.out.1.put hB4) (And.intro (HC.out.2.2.1.aside hc4 (by omega)) (HC.out.2.2.2.1.aside hc4 (by omega)))))
  clear HC hB4 hc4 hl3
  refine Calls.mono (HK.out _) ?_
  rintro e w5 ⟨rfl, hb5⟩
  have HE := Lib.hid (And.intro (HD.out.1.far hb5) (And.intro (HD.out.2.1.later hb5) (And.intro (HD.out.2.2.1.later hb5) (HD.out.2.2.2.later hb5))))
  clear HD HK hb5
  go_wp2_with fail
  refine Calls.mono (HO.out _) ?_
  rintro e w6 ⟨rfl, hb6⟩
  have HG := Lib.hid (And.intro (HE.out.1.far hb6) (And.intro (HE.out.2.1.later hb6) (And.intro (HE.out.2.2.1.later hb6) (HE.out.2.2.2.later hb6))))
  clear HE HO hb6
  go_wp2_with (first
    | (with_reducible refine ld_ptr rfl (.tmp 4) rfl w.heap.size 32 root.1 root.2.1 root.2.2 rfl HG.out.2.2.2.blk ?_)
    | (refine st_pt2 rfl (.tmp 6) (.tmp 31) rfl (w.heap.size + 1) _ root.1 root.2.1 root.2.2 rfl rfl HG.out.2.2.1.blk rfl ?_; intro w7 hB7 hk7))
  have ha7 := HG.out.1.aside HG.out.2.2.1 (hk7 (· = w.heap.size + 1) rfl)
  exact bodyPost_ret (ret_ptr3 rfl hB7 rfl) rfl ⟨O3, none, 0, rfl, ha7.at_, ha7.st⟩
set_option maxHeartbeats 4000000 in
theorem ttrim_any (h : PileAt w O g P) (ok : OkW P) (t : Tree P root F S T) (i : Nat) (hi : i < 64) (hq : blkQ S i ≠ hole0) (hc : need F S i hole0 ≤ P.m.count) (hN : P.N ≤ 900000) :
    Calls Try.prog 11 #[.pointer (some ⟨g, 0, none⟩), ptq root, .int .i64 (i : Int)] w
      fun e w' => ∃ O' B d, e = .returned (.tuple #[ptq (turnQ P F S i hole0), .slice B (oldL F S root i).length d, .int .i64 0]) ∧ PileAt w' O' g (turnP P F S i hole0) ∧ RdF w w' O' B (pqs (oldL F S root i)) ∧ Step w w' O O' := by
  obtain ⟨W, hW, hs, hbr, hbz⟩ := two_new (Sta.first h) 32 32 (pcs root.1 root.2.1 root.2.2) (pcs 0 0 0)
  have HA := Lib.hid (And.intro hs (And.intro hbr hbz))
  have HH := Lib.hid (has_yes i hi)
  have HF : Hid (∀ w O, PileAt w O g P → _) := Lib.hid fun w O (h : PileAt w O g P) => tfind h ok t i hi
  have HM : Hid (∀ w O, PileAt w O g P → _) := Lib.hid fun w O (h : PileAt w O g P) => tmap_any h
  have HT : Hid (∀ w O, PileAt w O g P → _) := Lib.hid fun w O (h : PileAt w O g P) => tturn h ok t (held_hole P) hi hc (by omega)
  have hleft : leftN (fw2 (i / 8) (i % 8) root F (S (i / 8))) = need F S i hole0 := rfl
  have hlf := left_any (fw2 (i / 8) (i % 8) root F (S (i / 8))) (by show i / 8 < 8; omega) (by show i % 8 < 8; omega)
  rw [hleft] at hlf
  have HL := Lib.hid hlf
  have hcn : ¬ (P.m.count : Int) < (need F S i hole0 : Int) := by omega
  generalize need F S i hole0 = nd at *
  have HK := Lib.hid (block_any (fw2 (i / 8) (i % 8) root F (S (i / 8))))
  have hz : ∀ w, Sem.run Try.prog (zeroValue 71) w = .ok (.agg zwy.cs.toArray) w := zeroWy
  have hzp : ∀ w, Sem.run Try.prog (zeroValue 32) w = .ok (ptv 0 0 0) w := zeroPtr8
  obtain ⟨v, hv⟩ : ∃ v, v = fw2 (i / 8) (i % 8) root F (S (i / 8)) := ⟨_, rfl⟩
  have hp2 : (fw2 (i / 8) (i % 8) root F (S (i / 8))).p2 = blkQ S i := rfl
  have hh : holeF (blkQ S i).1 (blkQ S i).2.1 (blkQ S i).2.2 = false := by rw [Bool.eq_false_iff]; exact fun e => hq (hole_iff.1 e)
  have HO := fun w => thole_any (blkQ S i).1 (blkQ S i).2.1 (blkQ S i).2.2 w
  rw [hh] at HO
  have HO := Lib.hid HO
  rw [hp2, ← hv] at HK
  rw [← hv] at HF HT HL
  generalize blkQ S i = q at *
  generalize turnQ P F S i hole0 = q2 at *
  generalize turnP P F S i hole0 = P2 at *
  generalize oldL F S root i = L at *
  clear h hs hbr hbz ok t hp2 hv hq hh hlf hleft hc hN
  go_enter Try.func11, Try.ntmps11
  go_upto_region 1 with (fail)
  rw [← hW]
  clear hW
  go_wp2_with fail
  refine Calls.mono (HH.out _) ?_
  rintro e w2 ⟨rfl, hb2⟩
  have HB := Lib.hid (And.intro (HA.out.1.far hb2) (And.intro (HA.out.2.1.later hb2) (HA.out.2.2.later hb2)))
  clear HA HH hb2
  go_wp2_with (with_reducible refine ld_ptr rfl (.tmp 4) rfl w.heap.size 32 root.1 root.2.1 root.2.2 rfl HB.out.2.1.blk ?_)
  refine Calls.mono (HF.out _ _ HB.out.1.at_) ?_
  rintro e w3 ⟨O3, rfl, hp3, hs3⟩
  have ha3 := HB.out.1.call hp3 hs3
  have hr3 := HB.out.2.2.step hs3
  have hq3 := HB.out.2.1.step hs3
  have HC := Lib.hid (And.intro (Bx.new ha3 71 zwy.cs.toArray) (And.intro (ha3.alloc (.cells zwy.cs.toArray 71)) (And.intro (hr3.alloc (.cells zwy.cs.toArray 71)) (And.intro (hq3.alloc (.cells zwy.cs.toArray 71)) hr3.lt))))
  clear HB HF ha3 hr3 hq3 hp3 hs3
  go_wp2_with (first
    | (refine st_wyc rfl (.tmp 9) (.tmp 20) rfl w3.heap.size _ _ v rfl rfl HC.out.1.blk ?_; intro w4 hB4 hc4)
    | (with_reducible refine ld_wy rfl (.tmp 9) rfl w3.heap.size 0 v rfl hB4.wyIs ?_))
  have hl3 := HC.out.2.2.2.2
  have HD := Lib.hid (And.intro (HC.out.2.1.aside HC.out.1 hc4) (And.intro (HC.out.1.put hB4) (And.intro (HC.out.2.2.1.aside hc4 (by omega)) (HC.out.2.2.2.1.aside hc4 (by omega)))))
  clear HC hB4 hc4 hl3
  refine Calls.mono (HK.out _) ?_
  rintro e w5 ⟨rfl, hb5⟩
  have HE := Lib.hid (And.intro (HD.out.1.far hb5) (And.intro (HD.out.2.1.later hb5) (And.intro (HD.out.2.2.1.later hb5) (HD.out.2.2.2.later hb5))))
  clear HD HK hb5
  go_wp2_with fail
  refine Calls.mono (HO.out _) ?_
  rintro e w6 ⟨rfl, hb6⟩
  have HG := Lib.hid (And.intro (HE.out.1.far hb6) (And.intro (HE.out.2.1.later hb6) (And.intro (HE.out.2.2.1.later hb6) (HE.out.2.2.2.later hb6))))
  clear HE HO hb6
  go_wp2_with fail
  have hS : Blk w6.drew w3.heap.size 71 v.cs.toArray := HG.out.2.1.drew.blk
  have HI := Lib.hid (And.intro HG.out.1.drew (And.intro HG.out.2.1.drew HG.out.2.2.1.drew))
  clear HG
  refine wp_region_held_drew (S := (fun w' => Blk w' w3.heap.size 71 v.cs.toArray)) (by kernel_rfl) hS (fun hHeld => ?_)
  clear hS
  generalize w6.drew = w7 at *
  obtain ⟨gm, hgm⟩ := HM.out _ _ HI.out.1.at_
  have HM1 := Lib.hid hgm
  clear hgm HM
  refine wpAnyH_take (i := 0) (v := (.pointer (some ⟨g, 0, none⟩))) rfl (by kernel_rfl) (by kernel_rfl) (by kernel_rfl) (fun _ _ _ h => h) (Or.inl ⟨by rfl, ?_⟩) (by assumption) ?_
  · intro w' hS; go_simp; try with_reducible rfl
  try simp [Act.put]
  refine wpAnyH_take (i := 3) (v := (.agg v.cs.toArray)) rfl (by kernel_rfl) (by kernel_rfl) (by kernel_rfl) (fun _ _ _ h => h) (Or.inl ⟨by rfl, ?_⟩) (by assumption) ?_
  · intro w' hS
    exact ex_ldWy (.tmp 9) rfl w3.heap.size _ v rfl hS
  try simp [Act.put]
  refine wpAnyH_ready (rs := [1]) (by kernel_rfl) (by simp) ?_
  refine AllReadyH.cons rfl (fun K hK => ?_) AllReadyH.nil
  go_simp
  refine Calls.mono HM1.out ?_
  rintro e w8 ⟨rfl, hb8, hm8⟩
  have HM2 := Lib.hid (hm8 _ (Below.refl _ _)).1
  have HJ := Lib.hid (And.intro (HI.out.1.far hb8) (And.intro (HI.out.2.1.later hb8) (HI.out.2.2.later hb8)))
  refine hK.out _ _ HJ.out.2.1.blk (fun hHeld2 => ?_)
  clear HI HM1 hb8 hm8
  clear hK K
  try simp
  clear hHeld
  have hHeld := hHeld2
  clear hHeld2
  refine wpAnyH_ready (rs := [2]) (by kernel_rfl) (by simp) ?_
  refine AllReadyH.cons rfl (fun K hK => ?_) AllReadyH.nil
  go_simp
  refine Calls.mono HM2.out ?_
  rintro e w9 ⟨rfl, hb9⟩
  have HI := Lib.hid (And.intro (HJ.out.1.far hb9) (And.intro (HJ.out.2.1.later hb9) (HJ.out.2.2.later hb9)))
  refine hK.out _ _ HI.out.2.1.blk (fun hHeld2 => ?_)
  clear HJ HM2 hb9
  clear hK K
  try simp
  clear hHeld
  have hHeld := hHeld2
  clear hHeld2
  refine wpAnyH_ready (rs := [4]) (by kernel_rfl) (by simp) ?_
  refine AllReadyH.cons rfl (fun K hK => ?_) AllReadyH.nil
  go_simp
  refine Calls.mono (HL.out _) ?_
  rintro e wa ⟨rfl, hba⟩
  have HJ := Lib.hid (And.intro (HI.out.1.far hba) (And.intro (HI.out.2.1.later hba) (HI.out.2.2.later hba)))
  refine hK.out _ _ HJ.out.2.1.blk (fun hHeld2 => ?_)
  clear HI HL hba
  clear hK K
  try simp
  clear hHeld
  have hHeld := hHeld2
  clear hHeld2
  refine wpAnyH_take (i := 5) (v := (.bool false)) rfl (by kernel_rfl) (by kernel_rfl) (by kernel_rfl) (fun _ _ _ h => h) (Or.inl ⟨by rfl, ?_⟩) (by assumption) ?_
  · intro w' hS
    go_simp
    omega
  try simp [Act.put]
  refine wpAnyH_take (i := 6) (v := (.bool false)) rfl (by kernel_rfl) (by kernel_rfl) (by kernel_rfl) (fun _ _ _ h => h) (Or.inl ⟨by rfl, ?_⟩) (by assumption) ?_
  · intro w' hS; go_simp; try with_reducible rfl
  try simp [Act.put]
  refine wpAnyH_done (by kernel_rfl) ?_ _
  go_wp2_with (with_reducible refine ld_wy rfl (.tmp 9) rfl w3.heap.size 0 v rfl hHeld.wyIs ?_)
  have HL8 := Lib.hid (And.intro HJ.out.2.2.lt HJ.out.1.size)
  refine Calls.mono (HT.out _ _ HJ.out.1.at_) ?_
  rintro e wb ⟨Ob, B, d, rfl, hpb, hrdb, hsb⟩
  have HK := Lib.hid (And.intro (HJ.out.1.call hpb hsb) (And.intro (HJ.out.2.2.step hsb) hrdb))
  clear HJ HT hpb hsb hrdb
  go_wp2_with (refine st_pt2 rfl (.tmp 6) (.tmp 44) rfl (w.heap.size + 1) _ q2.1 q2.2.1 q2.2.2 rfl rfl HK.out.2.1.blk rfl ?_; intro wc hBc hkc)
  have hcc := hkc (· = w.heap.size + 1) rfl
  have hac := HK.out.1.aside HK.out.2.1 hcc
  exact bodyPost_ret (ret_ptr3 rfl hBc rfl) rfl ⟨Ob, B, d, rfl, hac.at_, HK.out.2.2.aside hcc HL8.out.1 HL8.out.2, hac.st⟩
end
end
section
open Go.RowKit

/-! ### As mathematics -/
section
variable (f : PtrV → Bool) (root : PtrV) (F : P8) (S : Nat → P8)
def wk1 (i : Nat) : List PtrV := (if i = 0 then [root] else []) ++ (if f (F.at_ (i / 8)) = true then (if i % 8 = 0 then [F.at_ (i / 8)] else []) ++ (if f (blkQ S i) = true then [blkQ S i] else []) else [])
def wkP (n : Nat) : List PtrV := (List.range n).flatMap (wk1 f root F S)
def wkB (i : Nat) : Bool := f (F.at_ (i / 8)) && f (blkQ S i)
def wkN (n : Nat) : List Int := natI64 ((List.range n).filter (wkB f F S))
/-- What is told when the first nodes of the block's way are had. -/
def wkQ (i k : Nat) : List PtrV := wkP f root F S i ++ ((if 1 ≤ k then (if i = 0 then [root] else []) else []) ++ (if 2 ≤ k then (if i % 8 = 0 then [F.at_ (i / 8)] else []) else []))
end
section
variable {f : PtrV → Bool} {root : PtrV} {F : P8} {S : Nat → P8} {i : Nat}
theorem wkP_succ : wkP f root F S (i + 1) = wkP f root F S i ++ wk1 f root F S i := by
  unfold wkP
  rw [List.range_succ, List.flatMap_append]
  simp
theorem wkQ_zero : wkQ f root F S i 0 = wkP f root F S i := by simp [wkQ]
theorem wkP_no0 (h : f (F.at_ (i / 8)) = false) : wkP f root F S (i + 1) = wkQ f root F S i 1 := by
  rw [wkP_succ]
  simp [wkQ, wk1, h]
theorem wkP_no1 (h : f (F.at_ (i / 8)) = true) (h2 : f (blkQ S i) = false) : wkP f root F S (i + 1) = wkQ f root F S i 2 := by
  rw [wkP_succ]
  simp [wkQ, wk1, h, h2]
theorem wkP_yes (h : f (F.at_ (i / 8)) = true) (h2 : f (blkQ S i) = true) : wkP f root F S (i + 1) = wkQ f root F S i 2 ++ [blkQ S i] := by
  rw [wkP_succ]
  simp [wkQ, wk1, h, h2]
theorem wkQ_at0 : wkQ f root F S i 1 = wkQ f root F S i 0 ++ if i = 0 then [root] else [] := by simp [wkQ]
theorem wkQ_at1 : wkQ f root F S i 2 = wkQ f root F S i 1 ++ if i % 8 = 0 then [F.at_ (i / 8)] else [] := by simp [wkQ]
theorem wkN_succ : wkN f F S (i + 1) = wkN f F S i ++ if wkB f F S i = true then [(i : Int)] else [] := by
  unfold wkN natI64
  rw [List.range_succ, List.filter_append, List.map_append]
  congr 1
  cases h : wkB f F S i <;> simp [h]
theorem wkN_len (n : Nat) : (wkN f F S n).length ≤ n := by
  unfold wkN natI64
  rw [List.length_map]
  exact Nat.le_trans (List.length_filter_le _ _) (by simp)
theorem one_len {α : Type} (c : Prop) [Decidable c] (x : α) : (if c then [x] else []).length ≤ 1 := by split <;> simp
theorem wk1_len : (wk1 f root F S i).length ≤ 3 := by
  unfold wk1
  rw [List.length_append]
  have h1 := one_len (i = 0) root
  have h2 := one_len (i % 8 = 0) (F.at_ (i / 8))
  have h3 := one_len (f (blkQ S i) = true) (blkQ S i)
  by_cases h : f (F.at_ (i / 8)) = true
  · rw [if_pos h, List.length_append]
    omega
  · rw [if_neg h, List.length_nil]
    omega
theorem wkP_len : ∀ n, (wkP f root F S n).length ≤ 3 * n
  | 0 => Nat.le_refl _
  | n + 1 => by
    rw [wkP_succ, List.length_append]
    have := wkP_len n
    have := wk1_len (f := f) (root := root) (F := F) (S := S) (i := n)
    omega
theorem wkQ_len (hi : i < 64) (k : Nat) : (wkQ f root F S i k).length ≤ 1000 := by
  unfold wkQ
  have h0 := wkP_len (f := f) (root := root) (F := F) (S := S) i
  rw [List.length_append, List.length_append]
  have h1 : (if 1 ≤ k then (if i = 0 then [root] else []) else []).length ≤ 1 := by
    split
    · split <;> simp
    · simp
  have h2 : (if 2 ≤ k then (if i % 8 = 0 then [F.at_ (i / 8)] else []) else []).length ≤ 1 := by
    split
    · split <;> simp
    · simp
  omega
theorem filter_flat {α : Type} (g : α → Bool) : ∀ l : List α, l.filter g = l.flatMap fun x => if g x = true then [x] else []
  | [] => rfl
  | x :: r => by
    rw [List.flatMap_cons, ← filter_flat g r]
    cases h : g x <;> simp [h]
theorem range64 : List.range 64 = (List.range 8).flatMap fun k => (List.range 8).map fun j => 8 * k + j := rfl
/-- Of a root that is wanted. -/
theorem wkP_all : wkP f root F S 64 = root :: (List.range 8).flatMap fun k => if f (F.at_ k) = true then F.at_ k :: (S k).l.filter f else [] := by
  have key : ∀ k, k < 8 → ((List.range 8).map fun j => 8 * k + j).flatMap (wk1 f root F S) = (if k = 0 then [root] else []) ++ (if f (F.at_ k) = true then F.at_ k :: (S k).l.filter f else []) := fun k hk => by
    have hd : ∀ j, j < 8 → wk1 f root F S (8 * k + j) = (if 8 * k + j = 0 then [root] else []) ++ (if f (F.at_ k) = true then (if j = 0 then [F.at_ k] else []) ++ (if f ((S k).at_ j) = true then [(S k).at_ j] else []) else []) := fun j hj => by
      unfold wk1 blkQ
      rw [show (8 * k + j) / 8 = k by omega, show (8 * k + j) % 8 = j by omega]
    rw [filter_flat, p8_list]
    show wk1 f root F S (8 * k + 0) ++ (wk1 f root F S (8 * k + 1) ++ (wk1 f root F S (8 * k + 2) ++ (wk1 f root F S (8 * k + 3) ++ (wk1 f root F S (8 * k + 4) ++ (wk1 f root F S (8 * k + 5) ++ (wk1 f root F S (8 * k + 6) ++ (wk1 f root F S (8 * k + 7) ++ []))))))) = _
    rw [hd 0 (by omega), hd 1 (by omega), hd 2 (by omega), hd 3 (by omega), hd 4 (by omega), hd 5 (by omega), hd 6 (by omega), hd 7 (by omega)]
    have e : (List.map (S k).at_ (List.range 8)).flatMap (fun x => if f x = true then [x] else []) = (if f ((S k).at_ 0) = true then [(S k).at_ 0] else []) ++ ((if f ((S k).at_ 1) = true then [(S k).at_ 1] else []) ++ ((if f ((S k).at_ 2) = true then [(S k).at_ 2] else []) ++ ((if f ((S k).at_ 3) = true then [(S k).at_ 3] else []) ++ ((if f ((S k).at_ 4) = true then [(S k).at_ 4] else []) ++ ((if f ((S k).at_ 5) = true then [(S k).at_ 5] else []) ++ ((if f ((S k).at_ 6) = true then [(S k).at_ 6] else []) ++ ((if f ((S k).at_ 7) = true then [(S k).at_ 7] else []) ++ []))))))) := rfl
    rw [e, if_neg (show ¬ 8 * k + 1 = 0 by omega), if_neg (show ¬ 8 * k + 2 = 0 by omega), if_neg (show ¬ 8 * k + 3 = 0 by omega), if_neg (show ¬ 8 * k + 4 = 0 by omega), if_neg (show ¬ 8 * k + 5 = 0 by omega), if_neg (show ¬ 8 * k + 6 = 0 by omega), if_neg (show ¬ 8 * k + 7 = 0 by omega)]
    have e0 : (if 8 * k + 0 = 0 then [root] else []) = if k = 0 then [root] else [] := by
      by_cases h : k = 0
      · rw [if_pos (by omega), if_pos h]
      · rw [if_neg (by omega), if_neg h]
    rw [e0]
    cases hF : f (F.at_ k) <;> simp
  unfold wkP
  rw [range64, List.flatMap_assoc]
  show ((List.range 8).map fun j => 8 * 0 + j).flatMap _ ++ (((List.range 8).map fun j => 8 * 1 + j).flatMap _ ++ (((List.range 8).map fun j => 8 * 2 + j).flatMap _ ++ (((List.range 8).map fun j => 8 * 3 + j).flatMap _ ++ (((List.range 8).map fun j => 8 * 4 + j).flatMap _ ++ (((List.range 8).map fun j => 8 * 5 + j).flatMap _ ++ (((List.range 8).map fun j => 8 * 6 + j).flatMap _ ++ (((List.range 8).map fun j => 8 * 7 + j).flatMap _ ++ []))))))) = _
  rw [key 0 (by omega), key 1 (by omega), key 2 (by omega), key 3 (by omega), key 4 (by omega), key 5 (by omega), key 6 (by omega), key 7 (by omega)]
  rfl
end
theorem wkP_since (t : Int) (root : PtrV) (F : P8) (S : Nat → P8) (h : sinceQ t root = true) : wkP (sinceQ t) root F S 64 = allL t root F S := by
  rw [wkP_all]
  unfold allL
  rw [if_pos h]
  rfl
section
variable {P : Pw} {root : PtrV} {F : P8} {S : Nat → P8} {T : Nat → Sec}
theorem wkN_blocks (t : Tree P root F S T) : wkN nonH F S 64 = natI64 (blkL S) := by
  unfold wkN blkL
  congr 1
  refine List.filter_congr fun i hi => ?_
  have hi64 := List.mem_range.1 hi
  unfold wkB
  show _ = nonH (blkQ S i)
  cases h : nonH (F.at_ (i / 8)) with
  | true => rw [Bool.true_and]
  | false =>
    rw [Bool.false_and]
    have hq : F.at_ (i / 8) = hole0 := hole_iff.1 (by unfold nonH at h; simpa using h)
    have hS := t.noneK (k := i / 8) (by omega) hq
    unfold blkQ
    rw [hS, zp8_at _ (Nat.mod_lt _ (by omega))]
    rfl
theorem blocks_none (t : Tree P root F S T) (h : root = hole0) : blkL S = [] := by
  have hF := t.none h
  unfold blkL
  refine List.filter_eq_nil_iff.2 fun i hi => ?_
  have hi64 := List.mem_range.1 hi
  have hS := t.noneK (k := i / 8) (by omega) (by rw [hF]; exact zp8_at _ (by omega))
  unfold blkQ
  rw [hS, zp8_at _ (Nat.mod_lt _ (by omega))]
  decide
end
/-! ### What stands while the walk goes -/
def n2 (p q : P8) : List Value := p.cs ++ q.cs
theorem n2_len (p q : P8) : (n2 p q).length = 48 := by rw [n2, List.length_append, P8.cs_len, P8.cs_len]
def N2n (p q : P8) (k : Nat) : P8 := if k = 0 then p else q
theorem n2_at (p q : P8) (k : Nat) (hk : k < 2) (j : Nat) (hj : j < 24) : (n2 p q)[k * 24 + j]? = (N2n p q k).cs[j]? := by
  unfold n2
  rw [List.getElem?_append, P8.cs_len]
  match k, hk with
  | 0, _ => rw [if_pos (by omega), show 0 * 24 + j = j by omega]; rfl
  | 1, _ => rw [if_neg (by omega), show 1 * 24 + j - 24 = j by omega]; rfl
theorem infoN2 : (Try.prog.info? 68).map (fun i => (i.zero, i.size)) = some (some (.agg (n2 zp8 zp8).toArray), 48) := by kernel_rfl
theorem zeroN2 (w : World) : Sem.run Try.prog (zeroValue 68) w = .ok (.agg (n2 zp8 zp8).toArray) w := by
  obtain ⟨i, hi⟩ : ∃ i, Try.prog.info? 68 = some i := info_of_underlying Try.underlying68
  have h := infoN2
  rw [hi] at h
  simp only [Option.map_some, Option.some.injEq, Prod.mk.injEq] at h
  simp [zeroValue, typeInfo, hi, h.1]
section
variable {w : World} {g : Nat} {t : TypeId} {p q : P8}
theorem Blk.n2Node (h : Blk w g t (n2 p q).toArray) (k : Nat) (hk : k < 2) (j : Nat) (hj : j < 8) : w.rangeAt g (k * 24 + j * 3) [.int .i64 ((N2n p q k).at_ j).1, .int .u64 ((N2n p q k).at_ j).2.1, .int .u32 ((N2n p q k).at_ j).2.2] := h.range _ _ fun i u hv => by
  have hi : i < 3 := by
    have := (List.getElem?_eq_some_iff.1 hv).1
    simpa using this
  obtain ⟨c0, c1, c2⟩ := (N2n p q k).cell j hj
  rw [List.getElem?_toArray, Nat.add_assoc, n2_at p q k hk _ (by omega)]
  match i, hi with
  | 0, _ => exact c0.trans hv
  | 1, _ => exact c1.trans hv
  | 2, _ => exact c2.trans hv
theorem Blk.n2Has (h : Blk w g t (n2 p q).toArray) (k : Nat) (hk : k < 2) : w.there g (k * 24) 24 := h.there _ _ (by rw [List.size_toArray, n2_len]; omega)
theorem Blk.n2Set0 (h : Blk w g t (n2 p q).toArray) (x : P8) : Blk (w.setCells g 0 x.cs) g t (n2 x q).toArray := by
  refine h.setTo _ _ (by rw [List.size_toArray, n2_len, P8.cs_len]; omega) fun k => ?_
  rw [List.getElem?_toArray, List.getElem?_toArray, P8.cs_len]
  by_cases hk : k < 24
  · have := n2_at x q 0 (by omega) k hk
    rw [Nat.zero_mul, Nat.zero_add] at this
    rw [if_pos (by omega), this]
    rfl
  · rw [if_neg (by omega)]
    unfold n2
    rw [List.getElem?_append_right (by rw [P8.cs_len]; omega), List.getElem?_append_right (by rw [P8.cs_len]; omega), P8.cs_len, P8.cs_len]
theorem Blk.n2Set1 (h : Blk w g t (n2 p q).toArray) (x : P8) : Blk (w.setCells g 24 x.cs) g t (n2 p x).toArray := by
  refine h.setTo _ _ (by rw [List.size_toArray, n2_len, P8.cs_len]; omega) fun k => ?_
  rw [List.getElem?_toArray, List.getElem?_toArray, P8.cs_len]
  by_cases hk : k < 24
  · rw [if_neg (by omega)]
    unfold n2
    rw [List.getElem?_append_left (by rw [P8.cs_len]; omega), List.getElem?_append_left (by rw [P8.cs_len]; omega)]
  · unfold n2
    rw [List.getElem?_append_right (by rw [P8.cs_len]; omega), P8.cs_len]
    by_cases h2 : k < 48
    · rw [if_pos (by omega)]
    · rw [if_neg (by omega), List.getElem?_append_right (by rw [P8.cs_len]; omega), P8.cs_len, List.getElem?_eq_none (by rw [P8.cs_len]; omega), List.getElem?_eq_none (by rw [P8.cs_len]; omega)]
end
/-- A node stored in the walk's. -/
theorem step_stN2 {ops : Array Oper} {o : Oper} {a : Act} {w : World} {K : Act → World → Prop} {Q : Exit → Act → World → Prop} {E : Prop} (hgd : o.guard = none) (x y : Operand) (ho : o.op = .store 67 x y)
    (b : Nat) (t : TypeId) (p q : P8) (k : Nat) (hk : k < 2) (u : P8) (m : Nat) (hm : m = k * 24) (hx : a.eval x = .pointer (some ⟨b, m, none⟩)) (hy : a.eval y = .agg u.cs.toArray) (hb : Blk w b t (n2 p q).toArray)
    (h : ∀ w', Blk w' b t (n2 (if k = 0 then u else p) (if k = 0 then q else u)).toArray → Chg w w' (· = b) → K (a.put o.dst undef) w') : if Region.wanted o (yielded ops a.tmps) = true then Oper.wp Try.prog o a w K Q else E := by
  subst hm
  have hw : Region.wanted o (yielded ops a.tmps) = true := by simp [Region.wanted, hgd]
  rw [if_pos hw]
  refine wp_store_mid _ x y ho b _ u.cs.toArray hx hy (by rw [List.size_toArray, P8.cs_len]; exact hb.n2Has k hk) (sizeP8'' u) (all_one u.one) (h _ ?_ (Chg.setCells (O := (· = b)) (.inl rfl) _ _ (Chg.refl _ _)))
  match k, hk with
  | 0, _ => exact hb.n2Set0 u
  | 1, _ => exact hb.n2Set1 u
/-- append of a pointer that lies in a block of its own, in a region that draws its order. -/
theorem step_appP {ops : Array Oper} {o : Oper} {a : Act} {w : World} {K : Act → World → Prop} {Q : Exit → Act → World → Prop} {E : Prop} (hgd : o.guard = none) (s x : Nat)
    (ho : o.op = .call { callee := .builtin .append, args := #[.tmp s, .tmp x], argTypes := #[37, 37] })
    (base : Nat) (v : Value) (l : List PtrV) (hs : a.eval (.tmp s) = v) (hown : OwnQ w base v l) (q : PtrV) (g0 : Nat) (hg : Blk w g0 32 (pcs q.1 q.2.1 q.2.2)) (hx : a.eval (.tmp x) = .slice (some ⟨g0, 0, none⟩) 1 1) (hbase : base ≤ w.heap.size) (hn : l.length ≤ 1048576)
    (h : ∀ v' w', OwnQ w' base v' (l ++ [q]) → w.grownBy w' v.ownBlock → (∀ k, v'.ownBlock = some k → v.ownBlock = some k ∨ w.heap.size ≤ k) → K (a.put o.dst v') w') : if Region.wanted o (yielded ops a.tmps) = true then Oper.wp Try.prog o a w K Q else E := by
  obtain ⟨i0, hi0, hz0, hz2, hz3⟩ := info_parts infoPtr
  refine step_append_lies w hgd (.tmp s) (.tmp x) _ ho base 32 i0 _ 3 24 Try.underlying37 hi0 hz0 hz2 hz3 rfl (by omega) v l.length (pqs l) hs hown
    ⟨g0, 0, none⟩ 1 1 [.int .i64 q.1, .int .u64 q.2.1, .int .u32 q.2.2] hx rfl (fun j u hv => ?_) (by simp [Value.oneCell']) (by omega) (by simp only [maxLen]; omega) (by omega) hbase w.heap.size rfl ?_
  · rw [addr_flat, Nat.zero_add, hg.cell j, List.getElem?_toArray]
    exact hv
  · intro g cap w' h1 h2 h3 _
    refine h _ w' ?_ h2 fun k hk => ?_
    · show w'.ownsRow base 32 3 _ (l ++ [q]).length (pqs (l ++ [q]))
      rw [pqs_snoc, List.length_append]
      exact h1
    · have hk' : g = k := by simpa [Value.ownBlock] using hk
      rcases h3 with h3 | h3
      · left; rw [h3, hk']
      · right; omega
theorem app_intw {ops : Array Oper} {rest : List Oper} {o : Oper} {a : Act} {w : World} {Q : Exit → Act → World → Prop} (hgd : o.guard = none) (s x : Nat)
    (ho : o.op = .call { callee := .builtin .append, args := #[.tmp s, .tmp x], argTypes := #[46, 46] })
    (base : Nat) (v : Value) (l : List Int) (hs : a.eval (.tmp s) = v) (hown : OwnI w base v l) (n : Int)
    (hx : a.eval (.tmp x) = .slice (some ⟨w.heap.size, 0, none⟩) 1 1) (hbase : base ≤ w.heap.size) (hR : l.length ≤ 1048576)
    (h : ∀ v' w', OwnI w' base v' (l ++ [n]) → (w.alloc (.cells #[.int .i64 n] 3)).grownBy w' v.ownBlock → (∀ k, v'.ownBlock = some k → v.ownBlock = some k ∨ w.heap.size ≤ k) → wpList Try.prog ops Q rest (a.put o.dst v') w') :
    wpList Try.prog ops Q (o :: rest) a (w.alloc (.cells #[.int .i64 n] 3)) := by
  obtain ⟨i0, hi0, hz0, hz2, hz3⟩ := info_parts infoInt
  refine wpList_append_lies _ hgd (.tmp s) (.tmp x) _ ho base 3 i0 _ 1 8 Try.underlying46 hi0 hz0 hz2 hz3 rfl (by omega) v l.length (ints l) hs (World.ownsRow.alloc hown _)
    ⟨w.heap.size, 0, none⟩ 1 1 [.int .i64 n] hx rfl (rd_add (rd_new w #[.int .i64 n] 3)) (by simp [Value.oneCell']) (by omega) (by simp only [maxLen]; omega) (by omega) (by simp; omega) (w.heap.size + 1) (by simp) ?_
  intro g cap w' h1 h2 h3 _
  refine h _ w' ?_ h2 ?_
  · show w'.ownsRow base 3 1 _ (l ++ [n]).length (ints (l ++ [n]))
    rw [show ints (l ++ [n]) = ints l ++ [.int .i64 n] by simp [ints], List.length_append]
    exact h1
  · intro k hk
    rcases h3 with h3 | h3
    · left; rw [h3, ← hk]; rfl
    · right
      have : g = k := by simpa [Value.ownBlock] using hk
      omega
/-- A row that no call on the pile turns. -/
structure Rw (w : World) (O : Nat → Prop) (base : Nat) (e : TypeId) (size : Nat) (v : Value) (n : Nat) (xs : List Value) : Prop where
  own : w.ownsRow base e size v n xs
  far : ∀ b, v.ownBlock = some b → ¬ O b
section
variable {w w' : World} {O O' X : Nat → Prop} {base size n n' : Nat} {e : TypeId} {v v' : Value} {xs xs' : List Value}
theorem rw_lt (h : w.ownsRow base e size v n xs) : ∀ g, v.ownBlock = some g → base ≤ g ∧ g < w.heap.size := fun g hg => by
  rcases h.2 with ⟨h0, _⟩ | ⟨g', cap, cur, rfl, hbg, hg', _⟩
  · rw [h0] at hg
    cases hg
  · have e : g' = g := by simpa [Value.ownBlock] using hg
    subst e
    exact ⟨hbg, (Array.getElem?_eq_some_iff.1 hg').1⟩
theorem Rw.chg (h : Rw w O base e size v n xs) (hc : Chg w w' X) (hn : ∀ b, v.ownBlock = some b → ¬ X b) : Rw w' O base e size v n xs := ⟨own_chg h.own hc hn, h.far⟩
theorem Rw.step (h : Rw w O base e size v n xs) (s : Step w w' O O') : Rw w' O' base e size v n xs :=
  ⟨own_chg h.own s.chg h.far, fun b hb ho => (s.new b ho).elim (h.far b hb) fun h2 => by have := (rw_lt h.own b hb).2; omega⟩
theorem Rw.later (h : Rw w O base e size v n xs) (hb : Below w.heap.size w w') : Rw w' O base e size v n xs := ⟨own_far h.own hb, h.far⟩
theorem Rw.app (h : Rw w O base e size v n xs) (hO : ∀ k, O k → k < w.heap.size) (ho : w'.ownsRow base e size v' n' xs') (hn : ∀ k, v'.ownBlock = some k → v.ownBlock = some k ∨ w.heap.size ≤ k) : Rw w' O base e size v' n' xs' :=
  ⟨ho, fun b hb hx => (hn b hb).elim (fun h1 => h.far b h1 hx) fun h1 => by have := hO b hx; omega⟩
end
/-- A block of the call's own that no row's is. -/
structure Wx (w0 w : World) (O : Nat → Prop) (vq vn : Value) (b : Nat) (t : TypeId) (cs : Array Value) : Prop where
  box : Bx w0 w O b t cs
  q : vq.ownBlock ≠ some b
  n : vn.ownBlock ≠ some b
structure WK (w0 : World) (O0 : Nat → Prop) (w : World) (O : Nat → Prop) (g : Nat) (P : Pw) (b0 b1 b2 B : Nat) (root : PtrV) (N0 N1 : P8) (vq vn : Value) (L : List PtrV) (M : List Int) : Prop where
  sta : Sta w0 O0 w O g P
  rb : Wx w0 w O vq vn b0 32 (pcs root.1 root.2.1 root.2.2)
  nb : Wx w0 w O vq vn b1 68 (n2 N0 N1).toArray
  bb : Wx w0 w O vq vn b2 66 #[.int .i64 64, .int .i64 8]
  rq : Rw w O B 32 3 vq L.length (pqs L)
  rn : Rw w O B 3 1 vn M.length (ints M)
  apart : ∀ k, vq.ownBlock = some k → vn.ownBlock = some k → False
  lo : (b0 < b1 ∧ b1 < b2 ∧ b2 < B ∧ w0.heap.size ≤ B) ∧ B ≤ w.heap.size
section
variable {w0 w w' : World} {O0 O O' X : Nat → Prop} {g b0 b1 b2 B b b' : Nat} {P : Pw} {root : PtrV} {N0 N1 N0' N1' : P8} {vq vn v' : Value} {L : List PtrV} {M : List Int} {t t' : TypeId} {cs cs' : Array Value} {q : PtrV}
theorem Wx.later (h : Wx w0 w O vq vn b t cs) (hb : Below w.heap.size w w') : Wx w0 w' O vq vn b t cs := ⟨h.box.later hb, h.q, h.n⟩
theorem Wx.step (h : Wx w0 w O vq vn b t cs) (s : Step w w' O O') : Wx w0 w' O' vq vn b t cs := ⟨h.box.step s, h.q, h.n⟩
theorem Wx.aside (h : Wx w0 w O vq vn b t cs) (c : Chg w w' (· = b')) (hn : b ≠ b') : Wx w0 w' O vq vn b t cs := ⟨h.box.aside c hn, h.q, h.n⟩
theorem Wx.put (h : Wx w0 w O vq vn b t cs) (k : Blk w' b t' cs') (ht : t' = t) : Wx w0 w' O vq vn b t cs' := ⟨by subst ht; exact h.box.put k, h.q, h.n⟩
theorem Wx.lt (h : Wx w0 w O vq vn b t cs) : b < w.heap.size := h.box.lt
/-- Behind an append to the one row, or the other. -/
theorem Wx.appQ (h : Wx w0 w O vq vn b t cs) (hg : w.grownBy w' vq.ownBlock) (hn : ∀ k, v'.ownBlock = some k → vq.ownBlock = some k ∨ w.heap.size ≤ k) : Wx w0 w' O v' vn b t cs :=
  ⟨⟨h.box.blk.chg ((Chg.refl w (fun k => vq.ownBlock = some k)).grown hg fun k hk => .inl hk) h.q, h.box.far, h.box.lo⟩, fun e => (hn b e).elim h.q fun h1 => by have := h.box.lt; omega, h.n⟩
theorem Wx.appN (h : Wx w0 w O vq vn b t cs) (hg : w.grownBy w' vn.ownBlock) (hn : ∀ k, v'.ownBlock = some k → vn.ownBlock = some k ∨ w.heap.size ≤ k) : Wx w0 w' O vq v' b t cs :=
  ⟨⟨h.box.blk.chg ((Chg.refl w (fun k => vn.ownBlock = some k)).grown hg fun k hk => .inl hk) h.n, h.box.far, h.box.lo⟩, h.q, fun e => (hn b e).elim h.n fun h1 => by have := h.box.lt; omega⟩
theorem WK.later (h : WK w0 O0 w O g P b0 b1 b2 B root N0 N1 vq vn L M) (hb : Below w.heap.size w w') : WK w0 O0 w' O g P b0 b1 b2 B root N0 N1 vq vn L M :=
  ⟨h.sta.far hb, h.rb.later hb, h.nb.later hb, h.bb.later hb, h.rq.later hb, h.rn.later hb, h.apart, h.lo.1, Nat.le_trans h.lo.2 hb.size⟩
theorem WK.alloc (h : WK w0 O0 w O g P b0 b1 b2 B root N0 N1 vq vn L M) (o : Obj) : WK w0 O0 (w.alloc o) O g P b0 b1 b2 B root N0 N1 vq vn L M := h.later ((Below.refl _ _).alloc (Nat.le_refl _) _)
theorem WK.call (h : WK w0 O0 w O g P b0 b1 b2 B root N0 N1 vq vn L M) (hp : PileAt w' O' g P) (s : Step w w' O O') : WK w0 O0 w' O' g P b0 b1 b2 B root N0 N1 vq vn L M :=
  ⟨h.sta.call hp s, h.rb.step s, h.nb.step s, h.bb.step s, h.rq.step s, h.rn.step s, h.apart, h.lo.1, Nat.le_trans h.lo.2 s.chg.size⟩
/-- A store into a block of the call's own. -/
theorem WK.aside (h : WK w0 O0 w O g P b0 b1 b2 B root N0 N1 vq vn L M) (hB : Wx w0 w O vq vn b t cs) (hb : B ≤ b) (c : Chg w w' (· = b)) : WK w0 O0 w' O g P b0 b1 b2 B root N0 N1 vq vn L M :=
  ⟨h.sta.aside hB.box c, h.rb.aside c (by have := h.lo; omega), h.nb.aside c (by have := h.lo; omega), h.bb.aside c (by have := h.lo; omega), h.rq.chg c (fun k hk e => hB.q (e ▸ hk)), h.rn.chg c (fun k hk e => hB.n (e ▸ hk)), h.apart, h.lo.1, Nat.le_trans h.lo.2 c.size⟩
/-- A store into the nodes. -/
theorem WK.node (h : WK w0 O0 w O g P b0 b1 b2 B root N0 N1 vq vn L M) (hB : Blk w' b1 68 (n2 N0' N1').toArray) (c : Chg w w' (· = b1)) : WK w0 O0 w' O g P b0 b1 b2 B root N0' N1' vq vn L M :=
  ⟨h.sta.aside h.nb.box c, h.rb.aside c (by have := h.lo; omega), h.nb.put hB rfl, h.bb.aside c (by have := h.lo; omega), h.rq.chg c (fun k hk e => h.nb.q (e ▸ hk)), h.rn.chg c (fun k hk e => h.nb.n (e ▸ hk)), h.apart, h.lo.1, Nat.le_trans h.lo.2 c.size⟩
theorem WK.new (h : WK w0 O0 w O g P b0 b1 b2 B root N0 N1 vq vn L M) (t : TypeId) (cs : Array Value) : Wx w0 (w.alloc (.cells cs t)) O vq vn w.heap.size t cs :=
  ⟨Bx.new h.sta t cs, fun e => by have := (rw_lt h.rq.own _ e).2; omega, fun e => by have := (rw_lt h.rn.own _ e).2; omega⟩
theorem WK.appQ (h : WK w0 O0 w O g P b0 b1 b2 B root N0 N1 vq vn L M) (hg : w.grownBy w' vq.ownBlock) (ho : OwnQ w' B v' (L ++ [q])) (hn : ∀ k, v'.ownBlock = some k → vq.ownBlock = some k ∨ w.heap.size ≤ k) : WK w0 O0 w' O g P b0 b1 b2 B root N0 N1 v' vn (L ++ [q]) M := by
  have c : Chg w w' (fun k => vq.ownBlock = some k) := (Chg.refl w _).grown hg fun k hk => .inl hk
  refine ⟨⟨h.sta.at_.stay c fun k hk e => h.rq.far k e hk, ⟨h.sta.st.chg.trans c fun k hk e => ?_, h.sta.st.new⟩⟩, h.rb.appQ hg hn, h.nb.appQ hg hn, h.bb.appQ hg hn, h.rq.app h.sta.at_.foot ho hn, h.rn.chg c fun k hk e => h.apart k e hk, fun k h1 h2 => (hn k h1).elim (fun h3 => h.apart k h3 h2) fun h3 => by have := (rw_lt h.rn.own k h2).2; omega, h.lo.1, Nat.le_trans h.lo.2 c.size⟩
  have := (rw_lt h.rq.own k e).1
  have := h.lo
  omega
theorem WK.appN {n : Int} (h : WK w0 O0 w O g P b0 b1 b2 B root N0 N1 vq vn L M) (hg : w.grownBy w' vn.ownBlock) (ho : OwnI w' B v' (M ++ [n])) (hn : ∀ k, v'.ownBlock = some k → vn.ownBlock = some k ∨ w.heap.size ≤ k) : WK w0 O0 w' O g P b0 b1 b2 B root N0 N1 vq v' L (M ++ [n]) := by
  have c : Chg w w' (fun k => vn.ownBlock = some k) := (Chg.refl w _).grown hg fun k hk => .inl hk
  refine ⟨⟨h.sta.at_.stay c fun k hk e => h.rn.far k e hk, ⟨h.sta.st.chg.trans c fun k hk e => ?_, h.sta.st.new⟩⟩, h.rb.appN hg hn, h.nb.appN hg hn, h.bb.appN hg hn, h.rq.chg c fun k hk e => h.apart k hk e, h.rn.app h.sta.at_.foot ho hn, fun k h1 h2 => (hn k h2).elim (fun h3 => h.apart k h1 h3) fun h3 => by have := (rw_lt h.rq.own k h1).2; omega, h.lo.1, Nat.le_trans h.lo.2 c.size⟩
  have := (rw_lt h.rn.own k e).1
  have := h.lo
  omega
/-- The same, of what lies in the newest block. -/
theorem Wx.appQ' (h : Wx w0 w O vq vn b t cs) (o : Obj) (hg : (w.alloc o).grownBy w' vq.ownBlock) (hn : ∀ k, v'.ownBlock = some k → vq.ownBlock = some k ∨ w.heap.size ≤ k) : Wx w0 w' O v' vn b t cs := by
  have h' := h.later ((Below.refl w.heap.size w).alloc (Nat.le_refl _) o)
  exact ⟨⟨h'.box.blk.chg ((Chg.refl _ (fun k => vq.ownBlock = some k)).grown hg fun k hk => .inl hk) h.q, h.box.far, h.box.lo⟩, fun e => (hn b e).elim h.q fun h1 => by have := h.box.lt; omega, h.n⟩
theorem Wx.appN' (h : Wx w0 w O vq vn b t cs) (o : Obj) (hg : (w.alloc o).grownBy w' vn.ownBlock) (hn : ∀ k, v'.ownBlock = some k → vn.ownBlock = some k ∨ w.heap.size ≤ k) : Wx w0 w' O vq v' b t cs := by
  have h' := h.later ((Below.refl w.heap.size w).alloc (Nat.le_refl _) o)
  exact ⟨⟨h'.box.blk.chg ((Chg.refl _ (fun k => vn.ownBlock = some k)).grown hg fun k hk => .inl hk) h.n, h.box.far, h.box.lo⟩, h.q, fun e => (hn b e).elim h.n fun h1 => by have := h.box.lt; omega⟩
theorem WK.appQ' (h : WK w0 O0 w O g P b0 b1 b2 B root N0 N1 vq vn L M) (o : Obj) (hg : (w.alloc o).grownBy w' vq.ownBlock) (ho : OwnQ w' B v' (L ++ [q])) (hn : ∀ k, v'.ownBlock = some k → vq.ownBlock = some k ∨ w.heap.size ≤ k) : WK w0 O0 w' O g P b0 b1 b2 B root N0 N1 v' vn (L ++ [q]) M := by
  have h' := h.alloc o
  have c : Chg (w.alloc o) w' (fun k => vq.ownBlock = some k) := (Chg.refl _ _).grown hg fun k hk => .inl hk
  refine ⟨⟨h'.sta.at_.stay c fun k hk e => h.rq.far k e hk, ⟨h'.sta.st.chg.trans c fun k hk e => ?_, h'.sta.st.new⟩⟩, h.rb.appQ' o hg hn, h.nb.appQ' o hg hn, h.bb.appQ' o hg hn, h.rq.app h.sta.at_.foot ho hn, h'.rn.chg c fun k hk e => h.apart k e hk, fun k h1 h2 => (hn k h1).elim (fun h3 => h.apart k h3 h2) fun h3 => by have := (rw_lt h.rn.own k h2).2; omega, h.lo.1, Nat.le_trans h'.lo.2 c.size⟩
  have := (rw_lt h.rq.own k e).1
  have := h.lo
  omega
theorem WK.appN' {n : Int} (h : WK w0 O0 w O g P b0 b1 b2 B root N0 N1 vq vn L M) (o : Obj) (hg : (w.alloc o).grownBy w' vn.ownBlock) (ho : OwnI w' B v' (M ++ [n])) (hn : ∀ k, v'.ownBlock = some k → vn.ownBlock = some k ∨ w.heap.size ≤ k) : WK w0 O0 w' O g P b0 b1 b2 B root N0 N1 vq v' L (M ++ [n]) := by
  have h' := h.alloc o
  have c : Chg (w.alloc o) w' (fun k => vn.ownBlock = some k) := (Chg.refl _ _).grown hg fun k hk => .inl hk
  refine ⟨⟨h'.sta.at_.stay c fun k hk e => h.rn.far k e hk, ⟨h'.sta.st.chg.trans c fun k hk e => ?_, h'.sta.st.new⟩⟩, h.rb.appN' o hg hn, h.nb.appN' o hg hn, h.bb.appN' o hg hn, h'.rq.chg c fun k hk e => h.apart k hk e, h.rn.app h.sta.at_.foot ho hn, fun k h1 h2 => (hn k h2).elim (fun h3 => h.apart k h1 h3) fun h3 => by have := (rw_lt h.rq.own k h1).2; omega, h.lo.1, Nat.le_trans h'.lo.2 c.size⟩
  have := (rw_lt h.rn.own k e).1
  have := h.lo
  omega
/-- What is handed back. -/
theorem Rw.out {w0 w : World} {O : Nat → Prop} {B size n : Nat} {e : TypeId} {v : Value} {xs : List Value} (h : Rw w O B e size v n xs) (hB : w0.heap.size ≤ B) (hx : 0 < xs.length → 0 < n) : ∃ A d, v = .slice A n d ∧ RdF w0 w O A xs := by
  obtain ⟨A, c, rfl, hr, _⟩ := own_rd h.own
  have hf : ∀ b off, A = some ⟨b, off, none⟩ → 0 < xs.length → B ≤ b ∧ (Value.slice A n c).ownBlock = some b := fun b off e hn => by
    obtain ⟨g, cap, e2, hg, _⟩ := own_form h.own (hx hn)
    rw [e] at e2
    simp only [Value.slice.injEq, Option.some.injEq, Addr.mk.injEq] at e2
    refine ⟨by omega, by rw [e]; rfl⟩
  exact ⟨A, c, rfl, ⟨hr, fun b off e hn ho => h.far b (hf b off e hn).2 ho⟩, fun b off e hn => by have := (hf b off e hn).1; omega⟩
end
end
end Go.Proofs.Ytagkhicbngaghaa
