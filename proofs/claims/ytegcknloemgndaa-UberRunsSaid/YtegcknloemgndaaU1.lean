/- An uber as a value; whether it can be: plain mathematics and the walks of stamp, slot and both Rights. -/
import Derived.Test.YtegcknloemgndaaV4
import Derived.Test.YtegcknloemgndaaQ5
set_option maxRecDepth 10000
namespace Go.Proofs.Ytegcknloemgndaa
open Go.RowKit

structure Ub where
  txg : Nat
  stamp : Nat
  at_ : Int
  birth : Nat
  sum : Nat
  len : Int
  secs : Int
  hu : txg < 18446744073709551616 ∧ stamp < 18446744073709551616 ∧ birth < 18446744073709551616 ∧ sum < 4294967296
  hi : I64 at_ ∧ I64 len ∧ I64 secs
theorem Ub.eq : ∀ {u v : Ub}, u.txg = v.txg → u.stamp = v.stamp → u.at_ = v.at_ → u.birth = v.birth → u.sum = v.sum → u.len = v.len → u.secs = v.secs → u = v
  | ⟨_, _, _, _, _, _, _, _, _⟩, ⟨_, _, _, _, _, _, _, _, _⟩, rfl, rfl, rfl, rfl, rfl, rfl, rfl => rfl
def Ub.same (u v : Ub) : Bool := u.txg == v.txg && u.stamp == v.stamp && u.at_ == v.at_ && u.birth == v.birth && u.sum == v.sum && u.len == v.len && u.secs == v.secs
theorem Ub.same_iff {u v : Ub} : u.same v = true ↔ u = v := by
  constructor
  · intro h
    simp only [Ub.same, Bool.and_eq_true, beq_iff_eq] at h
    obtain ⟨⟨⟨⟨⟨⟨h1, h2⟩, h3⟩, h4⟩, h5⟩, h6⟩, h7⟩ := h
    exact Ub.eq h1 h2 h3 h4 h5 h6 h7
  · rintro rfl
    simp [Ub.same]
theorem Ub.same_self (u : Ub) : u.same u = true := Ub.same_iff.2 rfl
def Ub.cs (u : Ub) : List Value := [.int .u64 (u.txg : Int), .int .u64 (u.stamp : Int), .int .i64 u.at_, .int .u64 (u.birth : Int), .int .u32 (u.sum : Int), .int .i64 u.len, .int .i64 u.secs]
theorem Ub.cs_len (u : Ub) : u.cs.length = 7 := rfl
theorem Ub.one (u : Ub) : ∀ v ∈ u.cs, v.oneCell' = true := by
  intro v hv
  simp only [Ub.cs, List.mem_cons, List.not_mem_nil, or_false] at hv
  rcases hv with rfl | rfl | rfl | rfl | rfl | rfl | rfl <;> rfl
def zub : Ub := ⟨0, 0, 0, 0, 0, 0, 0, by omega, by unfold I64; omega⟩
theorem infoUb : (Try.prog.info? 27).map (fun i => (i.zero, i.size, i.bytes)) = some (some (.agg zub.cs.toArray), 7, 56) := by kernel_rfl
theorem sizeUb : (Try.prog.info? 27).map (·.size) = some 7 := by kernel_rfl
theorem sizeUb' (u : Ub) : (Try.prog.info? 27).map (·.size) = some u.cs.length := sizeUb
theorem sizeUb'' (u : Ub) : (Try.prog.info? 27).map (·.size) = some u.cs.toArray.size := sizeUb
theorem zeroUb (w : World) : Sem.run Try.prog (zeroValue 27) w = .ok (.agg zub.cs.toArray) w := by
  obtain ⟨i, hi, hz, _, _⟩ := info_parts infoUb
  simp [zeroValue, typeInfo, hi, hz]
theorem buildZU (w : World) : (Instr.build 27 #[]).run Try.prog w = .ok (.agg zub.cs.toArray) w := by
  refine run_build w _ _ _ ?_
  kernel_rfl
theorem buildU (u : Ub) (w : World) : (Instr.build 27 #[(0, .int .u64 (u.txg : Int)), (1, .int .u64 (u.stamp : Int)), (2, ptv u.at_ u.birth u.sum), (3, .int .i64 u.len), (4, .int .i64 u.secs)]).run Try.prog w = .ok (.agg u.cs.toArray) w := by
  refine run_build w _ _ _ ?_
  kernel_rfl
/-- An uber is loaded, wherever it lies. -/
theorem ld_ub {ops : Array Oper} {rest : List Oper} {o : Oper} {a : Act} {w : World} {Q : Exit → Act → World → Prop} (hgd : o.guard = none) (x : Operand) (ho : o.op = .load 27 x)
    (b k : Nat) (s : Ub) (hx : a.eval x = .pointer (some ⟨b, k, none⟩)) (hr : w.rangeAt b k s.cs)
    (h : wpList Try.prog ops Q rest (a.put o.dst (.agg s.cs.toArray)) w) : wpList Try.prog ops Q (o :: rest) a w :=
  wpList_load_mid hgd _ x ho b k hx s.cs _ hr Try.underlying27 rfl (sizeUb' s) h
/-- An uber is stored, wherever there is room for it. -/
theorem st_ub {ops : Array Oper} {rest : List Oper} {o : Oper} {a : Act} {w : World} {Q : Exit → Act → World → Prop} (hgd : o.guard = none) (x y : Operand) (ho : o.op = .store 27 x y)
    (b k : Nat) (s : Ub) (hx : a.eval x = .pointer (some ⟨b, k, none⟩)) (hy : a.eval y = .agg s.cs.toArray) (ht : w.there b k 7)
    (h : ∀ w', Hid (w' = w.setCells b k s.cs) → wpList Try.prog ops Q rest (a.put o.dst undef) w') : wpList Try.prog ops Q (o :: rest) a w :=
  wpList_store_mid hgd _ x y ho b k s.cs.toArray hx hy ht (sizeUb'' s) (all_one s.one) (h _ rfl)
section
variable {w : World} {g : Nat} {t : TypeId} {u : Ub}
theorem Blk.ubAll (h : Blk w g t u.cs.toArray) (v : Ub) : Blk (w.setCells g 0 v.cs) g t v.cs.toArray := h.setAll _ rfl
theorem Blk.ubHas (h : Blk w g t u.cs.toArray) : w.there g 0 7 := h.there 0 7 (Nat.le_refl _)
theorem Blk.ubIs (h : Blk w g t u.cs.toArray) : w.rangeAt g 0 u.cs := h.range 0 u.cs fun j v hv => by rw [Nat.zero_add, List.getElem?_toArray]; exact hv
theorem Blk.ubF (h : Blk w g t u.cs.toArray) : w.cell? ⟨g, 0, none⟩ = some (.int .u64 (u.txg : Int)) ∧ w.cell? ⟨g, 1, none⟩ = some (.int .u64 (u.stamp : Int)) ∧ w.cell? ⟨g, 2, none⟩ = some (.int .i64 u.at_) ∧ w.cell? ⟨g, 3, none⟩ = some (.int .u64 (u.birth : Int)) ∧
    w.cell? ⟨g, 4, none⟩ = some (.int .u32 (u.sum : Int)) ∧ w.cell? ⟨g, 5, none⟩ = some (.int .i64 u.len) ∧ w.cell? ⟨g, 6, none⟩ = some (.int .i64 u.secs) :=
  ⟨h.cell 0, h.cell 1, h.cell 2, h.cell 3, h.cell 4, h.cell 5, h.cell 6⟩
/-- Its table, within it. -/
theorem Blk.ubP (h : Blk w g t u.cs.toArray) : w.rangeAt g 2 [.int .i64 u.at_, .int .u64 (u.birth : Int), .int .u32 (u.sum : Int)] := h.range 2 _ fun j v hv => by
  rcases j with _ | _ | _ | j
  · exact hv
  · exact hv
  · exact hv
  · simp at hv
end
theorem ld_ptrU {ops : Array Oper} {rest : List Oper} {o : Oper} {act : Act} {w : World} {Q : Exit → Act → World → Prop} (hgd : o.guard = none) (x : Operand) (ho : o.op = .load 25 x)
    (g : Nat) (t : TypeId) (u : Ub) (hx : act.eval x = .pointer (some ⟨g, 2, none⟩)) (hB : Blk w g t u.cs.toArray)
    (h : wpList Try.prog ops Q rest (act.put o.dst (ptv u.at_ u.birth u.sum)) w) : wpList Try.prog ops Q (o :: rest) act w :=
  wpList_load_mid hgd _ x ho g 2 hx [.int .i64 u.at_, .int .u64 u.birth, .int .u32 u.sum] _ hB.ubP Try.underlying25 rfl ptr_size h
theorem ub_new (w : World) (u : Ub) : Blk (w.alloc (.cells u.cs.toArray 27)) w.heap.size 27 u.cs.toArray := Blk.new w _ _

/-! ### Whether it can be -/
def okU (u : Ub) : Prop := (1 ≤ u.txg ∧ u.txg ≤ 281474976710655) ∧ (1 ≤ u.stamp ∧ u.stamp ≤ 281474976710655) ∧ (4 ≤ u.at_ ∧ u.at_ ≤ 1023 ∧ 1 ≤ u.birth ∧ u.birth ≤ 281474976710655) ∧ (1 ≤ u.len ∧ u.len ≤ 65535) ∧ 64 ≤ u.secs ∧ u.secs ≤ 1024
instance (u : Ub) : Decidable (okU u) := by unfold okU; infer_instance
def rightU (u : Ub) : Bool := decide (okU u)
def stampF (n : Nat) : Bool := decide (1 ≤ n ∧ n ≤ 281474976710655)
theorem stamp_any (n : Nat) (w : World) : Calls Try.prog 45 #[.int .u64 (n : Int)] w fun e w' => e = .returned (.bool (stampF n)) ∧ w' = w := by
  by_cases h1 : (1 : Int) ≤ n
  · by_cases h2 : (n : Int) ≤ 281474976710655
    · have hs : stampF n = true := by simp only [stampF, decide_eq_true_eq]; omega
      rw [hs]
      clear hs
      go_enter Try.func45, Try.ntmps45
      go_wp2_with fail
      go_ret
      exact ⟨rfl, rfl⟩
    · have hs : stampF n = false := by simp only [stampF, decide_eq_false_iff_not]; omega
      rw [hs]
      clear hs
      go_enter Try.func45, Try.ntmps45
      go_wp2_with fail
      go_ret
      exact ⟨rfl, rfl⟩
  · have hs : stampF n = false := by simp only [stampF, decide_eq_false_iff_not]; omega
    rw [hs]
    clear hs
    go_enter Try.func45, Try.ntmps45
    go_wp2_with fail
    go_ret
    exact ⟨rfl, rfl⟩
def slotU (u : Ub) : Nat := u.txg % 4
theorem slot_any (u : Ub) (w : World) : Calls Try.prog 49 #[.agg u.cs.toArray] w fun e w' => e = .returned (.int .i64 (slotU u : Int)) ∧ Below w.heap.size w w' := by
  obtain ⟨h0, _⟩ := (ub_new w u).ubF
  have hk : ((slotU u : Nat) : Int) = (u.txg : Int) % 4 := by unfold slotU; omega
  have hw : IntKind.i64.wrap ((u.txg : Int) % 4) = (u.txg : Int) % 4 := by rw [IntKind.wrap_i64]; omega
  have HK := Lib.hid hk
  clear hk
  go_enter Try.func49, Try.ntmps49
  go_wp2_with fail
  go_ret
  exact ⟨by rw [HK.out]; rfl, (Below.refl _ _).alloc (by omega) _⟩
end Go.Proofs.Ytegcknloemgndaa
