/- Two rows of eight pointers held against each other. -/
import Derived.Test.YtgbghmgipnphkaaH2
import Derived.Test.YtgbghmgipnphkaaV11
set_option maxRecDepth 10000
namespace Go.Proofs.Ytgbghmgipnphkaa
open Go.RowKit

def sameQ (a b : PtrV) : Bool := a.1 == b.1 && a.2.1 == b.2.1 && a.2.2 == b.2.2
theorem sameQ_iff {a b : PtrV} : sameQ a b = true ↔ a = b := by
  obtain ⟨a1, a2, a3⟩ := a
  obtain ⟨b1, b2, b3⟩ := b
  simp [sameQ, and_assoc]
theorem p8_cut (p : P8) (k : Nat) (hk : k < 8) : p.cs.toArray.extract (k * 3) (k * 3 + 3) = #[.int .i64 (p.at_ k).1, .int .u64 (p.at_ k).2.1, .int .u32 (p.at_ k).2.2] := by
  obtain ⟨h0, h1, h2⟩ := p.cell k hk
  have hs : p.cs.toArray.size = 24 := by rw [List.size_toArray, P8.cs_len]
  refine Array.ext_getElem? fun j => ?_
  rw [Array.getElem?_extract, hs]
  match j with
  | 0 => rw [if_pos (by omega), List.getElem?_toArray]; exact h0
  | 1 => rw [if_pos (by omega), List.getElem?_toArray]; exact h1
  | 2 => rw [if_pos (by omega), List.getElem?_toArray]; exact h2
  | j + 3 => rw [if_neg (by omega)]; simp
theorem cellsPtr : Try.prog.cellsOf 30 = 3 := by kernel_rfl
theorem p8_cutL (p : P8) (k : Nat) (hk : k < 8) : List.take 3 (List.drop (k * 3) p.cs) = [.int .i64 (p.at_ k).1, .int .u64 (p.at_ k).2.1, .int .u32 (p.at_ k).2.2] := by
  have hc := congrArg Array.toList (p8_cut p k hk)
  simp only [List.extract_toArray] at hc
  rw [← hc]
  simp
theorem run_partP (p : P8) (k : Nat) (hk : k < 8) (w : World) : (part 30 p.cs.toArray (k * 3)).run Try.prog w = .ok (ptq (p.at_ k)) w := by
  have hc2 := p8_cutL p k hk
  simp [part, isAgg, run_underlying Try.underlying30, hc2, Sem.run_bind, Sem.run_pure]
theorem run_ixP8 (p : P8) (k : Nat) (hk : k < 8) (w : World) : (Instr.index 31 (.agg p.cs.toArray) (.int .i64 (k : Int))).run Try.prog w = .ok (ptq (p.at_ k)) w := by
  obtain ⟨i, hi⟩ : ∃ i, Try.prog.info? 30 = some i := info_of_underlying Try.underlying30
  have hs := run_sizeOf w hi
  rw [cellsPtr] at hs
  have hc2 := p8_cutL p k hk
  simp [Instr.index, asIntOf, run_underlying Try.underlying31, hs, hc2, hk, go_sem]
theorem ex_ixP8 {o : Oper} {a : Act} {w : World} (x y : Operand) (ho : o.op = .index 31 x y) (p : P8) (k : Nat) (hk : k < 8) (hx : a.eval x = .agg p.cs.toArray) (hy : a.eval y = .int .i64 (k : Int)) : (execOp a.eval o).run Try.prog w = .ok (.value (ptq (p.at_ k))) w := by
  have h := run_ixP8 p k hk w
  unfold execOp
  simp [ho, hx, hy, h]
theorem ex_ldPq {o : Oper} {a : Act} {w : World} (x : Operand) (ho : o.op = .load 30 x) (g : Nat) (i j k : Int) (hx : a.eval x = .pointer (some ⟨g, 0, none⟩)) (hg : Blk w g 30 #[.int .i64 i, .int .u64 j, .int .u32 k]) :
    (execOp a.eval o).run Try.prog w = .ok (.value (ptv i j k)) w := by
  have h := run_loadAt_mid w g 0 _ [.int .i64 i, .int .u64 j, .int .u32 k] _ (hg.range 0 _ fun j v hv => by rw [Nat.zero_add, List.getElem?_toArray]; exact hv) Try.underlying30 rfl ptr_size
  unfold execOp
  simp only [ho, hx, h, Sem.run_bind, Sem.run_pure, Result.andThen_ok]
theorem run_eqPI (x y : PtrV) (w : World) : (Op.equalIn 9999 30 (ptq x) (ptq y)).run Try.prog w = .ok (sameQ x y) w := by
  obtain ⟨a, b, s⟩ := x
  obtain ⟨a', b', s'⟩ := y
  have u1 := Try.underlying3
  have u2 := Try.underlying27
  have u3 := Try.underlying28
  have c1 : Try.prog.cellsOf 3 = 1 := by kernel_rfl
  have c2 : Try.prog.cellsOf 27 = 1 := by kernel_rfl
  have c3 : Try.prog.cellsOf 28 = 1 := by kernel_rfl
  rw [show (9999 : Nat) = 9998 + 1 from rfl, run_equalIn_agg w 9998 30 _ _ ptr_struct ptr_plain]
  simp only [Program.fieldsOf, Try.underlying30]
  go_simp
  by_cases h1 : a = a' <;> by_cases h2 : b = b' <;> by_cases h3 : s = s' <;> simp [h1, h2, h3, sameQ]
def P8.same (p q : P8) : Bool := (List.range 8).all fun i => sameQ (p.at_ i) (q.at_ i)
theorem P8.same_iff {p q : P8} : p.same q = true ↔ p = q := by
  unfold P8.same
  rw [List.all_eq_true]
  constructor
  · intro h
    exact P8.ext fun j hj => sameQ_iff.1 (h j (List.mem_range.2 hj))
  · rintro rfl j _
    exact sameQ_iff.2 rfl
theorem run_eqItP (p q : P8) (w : World) : ∀ is : List Nat, (∀ i ∈ is, i < 8) → (Op.eqItems 9999 30 3 p.cs.toArray q.cs.toArray is).run Try.prog w = .ok (is.all fun i => sameQ (p.at_ i) (q.at_ i)) w
  | [], _ => by simp [Op.eqItems]
  | i :: is, h => by
    have ih := run_eqItP p q w is fun j hj => h j (List.mem_cons_of_mem _ hj)
    simp only [Op.eqItems, Sem.run_bind, run_partP p i (h i List.mem_cons_self) w, run_partP q i (h i List.mem_cons_self) w, run_eqPI, Result.andThen_ok, List.all_cons]
    cases sameQ (p.at_ i) (q.at_ i)
    · simp
    · simpa using ih
theorem run_eqP8 (p q : P8) (w : World) : (Op.equal 31 (.agg p.cs.toArray) (.agg q.cs.toArray)).run Try.prog w = .ok (p.same q) w := by
  obtain ⟨iu, hiu⟩ : ∃ i, Try.prog.info? 30 = some i := info_of_underlying Try.underlying30
  unfold Op.equal Op.maxDepth
  rw [run_equalIn_array (P := Try.prog) w 9999 _ _ Try.underlying31 hiu, cellsPtr]
  exact run_eqItP p q w _ fun i hi => List.mem_range.1 hi
theorem ex_eqP8 {o : Oper} {a : Act} {w : World} (x y : Operand) (ho : o.op = .binOp .eql 31 x y 31) (p q : P8) (hx : a.eval x = .agg p.cs.toArray) (hy : a.eval y = .agg q.cs.toArray) :
    (execOp a.eval o).run Try.prog w = .ok (.value (.bool (p.same q))) w := by
  unfold execOp
  simp [ho, hx, hy, eqGuard, binOp, run_eqP8]
theorem ex_neP8 {o : Oper} {a : Act} {w : World} (x y : Operand) (ho : o.op = .binOp .neq 31 x y 31) (p q : P8) (hx : a.eval x = .agg p.cs.toArray) (hy : a.eval y = .agg q.cs.toArray) :
    (execOp a.eval o).run Try.prog w = .ok (.value (.bool (!p.same q))) w := by
  unfold execOp
  simp [ho, hx, hy, eqGuard, binOp, run_eqP8]
theorem ex_ldP8 {o : Oper} {a : Act} {w : World} (x : Operand) (ho : o.op = .load 31 x) (g : Nat) (p : P8) (hx : a.eval x = .pointer (some ⟨g, 0, none⟩)) (hg : Blk w g 31 p.cs.toArray) :
    (execOp a.eval o).run Try.prog w = .ok (.value (.agg p.cs.toArray)) w := by
  have h := run_loadAt_mid w g 0 _ p.cs _ hg.p8Is Try.underlying31 rfl (sizeP8' p)
  unfold execOp
  simp only [ho, hx, h, Sem.run_bind, Sem.run_pure, Result.andThen_ok]
def p7 : P8 := zp8.set 7 (9, 3, 1)
theorem buildP7 (w : World) : (Instr.build 31 #[(7, ptv 9 3 1)]).run Try.prog w = .ok (.agg p7.cs.toArray) w := by
  refine run_build w _ _ _ ?_
  kernel_rfl
theorem ex_buildP7 {o : Oper} {a : Act} {w : World} (x : Operand) (ho : o.op = .build 31 #[(7, x)]) (hx : a.eval x = ptv 9 3 1) :
    (execOp a.eval o).run Try.prog w = .ok (.value (.agg p7.cs.toArray)) w := by
  have hb := buildP7 w
  unfold execOp
  simp only [ho, hx, List.map_toArray, List.map_cons, List.map_nil, Sem.run_bind, hb, Sem.run_pure, Result.andThen_ok]
theorem p7_s : all8 p7 = true ∧ nbC p7 = 0 ∧ emptyF p7 = false ∧ newestF p7 = 3 := by decide +kernel
theorem p7_ok : p7.ok := by
  intro q hq
  have h : q ∈ List.set (List.replicate 8 hole0) 7 ((9, 3, 1) : PtrV) := hq
  rcases List.mem_or_eq_of_mem_set h with h | h
  · rw [List.eq_of_mem_replicate h]
    unfold PtrOk hole0
    refine ⟨?_, ?_, ?_, ?_, ?_, ?_⟩ <;> simp only <;> omega
  · rw [h]
    unfold PtrOk
    refine ⟨?_, ?_, ?_, ?_, ?_, ?_⟩ <;> simp only <;> omega
theorem p7_at : (nbS p7).l.getD 112 0 = 9 ∧ (nbS p7).l.getD 116 0 = 3 ∧ (nbS p7).l.getD 124 0 = 1 := by decide +kernel
theorem p7_back : nrP (nbS p7) = p7 ∧ nrC (nbS p7) = 0 := by
  constructor
  · exact P8.eq (by decide +kernel)
  · decide +kernel
end Go.Proofs.Ytgbghmgipnphkaa
