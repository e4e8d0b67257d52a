/- The reference's device by value: its state as plain data, how it lies in memory, the walks of its calls. -/
import Derived.Test.YtegcknloemgndaaV11
import Derived.Deep.Cut
set_option maxRecDepth 10000
namespace Go.Proofs.Ytegcknloemgndaa
open Go.RowKit

structure RSt where
  st : List Sec
  pend : List (Nat × Sec)
  ops : Int
  fuel : Int
  dead : Bool
/-- A device's value: its state, and where its slices lie. -/
structure RD where
  s : RSt
  sa : Option Addr
  sc : Nat
  pa : Option Addr
  pc : Nat
def RD.cs (d : RD) : List Value := [.slice d.sa d.s.st.length d.sc, .slice d.pa d.s.pend.length d.pc, .int .i64 d.s.ops, .int .i64 d.s.fuel, .bool d.s.dead]
theorem RD.one (d : RD) : ∀ v ∈ d.cs, v.oneCell' = true := by
  intro v hv
  simp only [RD.cs, List.mem_cons, List.not_mem_nil, or_false] at hv
  rcases hv with rfl | rfl | rfl | rfl | rfl <;> rfl
def zrd : RD := ⟨⟨[], [], 0, 0, false⟩, none, 0, none, 0⟩
theorem infoRd : (Try.prog.info? 47).map (fun i => (i.zero, i.size)) = some (some (.agg zrd.cs.toArray), 5) := by kernel_rfl
theorem sizeRd : (Try.prog.info? 47).map (·.size) = some 5 := by kernel_rfl
theorem sizeRd' (d : RD) : (Try.prog.info? 47).map (·.size) = some d.cs.length := sizeRd
theorem sizeRd'' (d : RD) : (Try.prog.info? 47).map (·.size) = some d.cs.toArray.size := sizeRd
theorem zeroRd (w : World) : Sem.run Try.prog (zeroValue 47) w = .ok (.agg zrd.cs.toArray) w := by
  obtain ⟨i, hi⟩ : ∃ i, Try.prog.info? 47 = some i := info_of_underlying Try.underlying47
  have h := infoRd
  rw [hi] at h
  simp only [Option.map_some, Option.some.injEq, Prod.mk.injEq] at h
  simp [zeroValue, typeInfo, hi, h.1]
/-- A device is loaded, wherever it lies. -/
theorem ld_rd {ops : Array Oper} {rest : List Oper} {o : Oper} {a : Act} {w : World} {Q : Exit → Act → World → Prop} (hgd : o.guard = none) (x : Operand) (ho : o.op = .load 47 x)
    (b k : Nat) (s : RD) (hx : a.eval x = .pointer (some ⟨b, k, none⟩)) (hr : w.rangeAt b k s.cs)
    (h : wpList Try.prog ops Q rest (a.put o.dst (.agg s.cs.toArray)) w) : wpList Try.prog ops Q (o :: rest) a w :=
  wpList_load_mid hgd _ x ho b k hx s.cs _ hr Try.underlying47 rfl (sizeRd' s) h
/-- A device is stored, wherever there is room for it. -/
theorem st_rd {ops : Array Oper} {rest : List Oper} {o : Oper} {a : Act} {w : World} {Q : Exit → Act → World → Prop} (hgd : o.guard = none) (x y : Operand) (ho : o.op = .store 47 x y)
    (b k : Nat) (s : RD) (hx : a.eval x = .pointer (some ⟨b, k, none⟩)) (hy : a.eval y = .agg s.cs.toArray) (ht : w.there b k 5)
    (h : ∀ w', Hid (w' = w.setCells b k s.cs) → wpList Try.prog ops Q rest (a.put o.dst undef) w') : wpList Try.prog ops Q (o :: rest) a w :=
  wpList_store_mid hgd _ x y ho b k s.cs.toArray hx hy ht (sizeRd'' s) (all_one s.one) (h _ rfl)
section
variable {w : World} {g : Nat} {t : TypeId} {d : RD}
theorem Blk.rdAll (h : Blk w g t d.cs.toArray) (v : RD) : Blk (w.setCells g 0 v.cs) g t v.cs.toArray := h.setAll _ rfl
theorem Blk.rdHas (h : Blk w g t d.cs.toArray) : w.there g 0 5 := h.there 0 5 (Nat.le_refl _)
theorem Blk.rdIs (h : Blk w g t d.cs.toArray) : w.rangeAt g 0 d.cs := h.range 0 d.cs fun j v hv => by rw [Nat.zero_add, List.getElem?_toArray]; exact hv
theorem Blk.rdF (h : Blk w g t d.cs.toArray) : w.cell? ⟨g, 0, none⟩ = some (.slice d.sa d.s.st.length d.sc) ∧ w.cell? ⟨g, 1, none⟩ = some (.slice d.pa d.s.pend.length d.pc) ∧ w.cell? ⟨g, 2, none⟩ = some (.int .i64 d.s.ops) ∧ w.cell? ⟨g, 3, none⟩ = some (.int .i64 d.s.fuel) ∧
    w.cell? ⟨g, 4, none⟩ = some (.bool d.s.dead) ∧ ∀ i, w.frozen? ⟨g, i, none⟩ = false :=
  ⟨h.cell 0, h.cell 1, h.cell 2, h.cell 3, h.cell 4, h.frozen⟩
end
theorem rd_box (w : World) (d : RD) : Blk (w.alloc (.cells d.cs.toArray 47)) w.heap.size 47 d.cs.toArray := Blk.new w _ _
theorem new_rd {w w' : World} {x : RD} (h : w' = (w.alloc (.cells zrd.cs.toArray 47)).setCells w.heap.size 0 x.cs) : Blk w' w.heap.size 47 x.cs.toArray ∧ Below w.heap.size w w' := by
  subst h
  exact ⟨(Blk.new w _ _).setAll _ rfl, Below.setCells _ (Nat.le_refl _) _ _ ((Below.refl _ _).alloc (Nat.le_refl _) _)⟩
theorem new_secs {w w' : World} {x : Sec} (h : w' = (w.alloc (.cells zsec.cs.toArray 34)).setCells w.heap.size 0 x.cs) : Blk w' w.heap.size 34 x.cs.toArray ∧ Below w.heap.size w w' := by
  subst h
  exact ⟨Blk.secAll (s := zsec) (Blk.new w _ _) x, Below.setCells _ (Nat.le_refl _) _ _ ((Below.refl _ _).alloc (Nat.le_refl _) _)⟩

/-! ### In memory: cells that are read, in no block of O -/
def RdO (w : World) (O : Nat → Prop) (A : Option Addr) (xs : List Value) : Prop :=
  0 < xs.length → ∃ b off, A = some ⟨b, off, none⟩ ∧ b < w.heap.size ∧ ¬ O b ∧ ∀ j v, xs[j]? = some v → w.cell? ⟨b, off + j, none⟩ = some v
section
variable {w w' : World} {O : Nat → Prop} {A : Option Addr} {xs : List Value}
theorem RdO.below (h : RdO w O A xs) (hb : Below w.heap.size w w') : RdO w' O A xs := fun hn =>
  let ⟨b, off, e, hl, ho, hc⟩ := h hn
  ⟨b, off, e, Nat.lt_of_lt_of_le hl hb.size, ho, fun j v hv => (hb.cell (p := ⟨b, off + j, none⟩) hl).trans (hc j v hv)⟩
theorem RdO.rd (h : RdO w O A xs) : Rd w w.heap.size A xs := fun hn =>
  let ⟨b, off, e, hl, _, hc⟩ := h hn
  ⟨b, off, e, hl, hc⟩
theorem RdO.nil : RdO w O A [] := fun h => absurd h (by simp)
theorem RdO.sec {l : List Sec} (h : RdO w O A (flat l)) (k : Nat) (hk : k < l.length) : ∃ b off, A = some ⟨b, off, none⟩ ∧ w.rangeAt b (off + k * 128) l[k].cs := by
  obtain ⟨b, off, e, _, _, hc⟩ := h (by rw [flat_len]; omega)
  refine ⟨b, off, e, fun j v hv => ?_⟩
  have hj : j < 128 := by have := (List.getElem?_eq_some_iff.1 hv).1; rwa [Sec.cs_len] at this
  rw [Nat.add_assoc]
  exact hc _ v (by rw [flat_at l k hk j hj]; exact hv)
theorem RdO.wr {l : List (Nat × Sec)} (h : RdO w O A (flatW l)) (k : Nat) (hk : k < l.length) : ∃ b off, A = some ⟨b, off, none⟩ ∧ b < w.heap.size ∧ w.rangeAt b (off + k * 129) (wcs l[k]) := by
  obtain ⟨b, off, e, hl, _, hc⟩ := h (by rw [flatW_len]; omega)
  refine ⟨b, off, e, hl, fun j v hv => ?_⟩
  have hj : j < 129 := by have := (List.getElem?_eq_some_iff.1 hv).1; rwa [wcs_len] at this
  rw [Nat.add_assoc]
  exact hc _ v (by rw [flatW_at l k hk j hj]; exact hv)
end
/-- The device's slices lie in memory, in no block of O. -/
structure Lies (w : World) (O : Nat → Prop) (d : RD) : Prop where
  st : RdO w O d.sa (flat d.s.st)
  pd : RdO w O d.pa (flatW d.s.pend)
  ok : ∀ p ∈ d.s.pend, p.1 < d.s.st.length
  hn : d.s.st.length ≤ 1024
  fl : I64 d.s.fuel
theorem Lies.below {w w' : World} {O : Nat → Prop} {d : RD} (h : Lies w O d) (hb : Below w.heap.size w w') : Lies w' O d := ⟨h.st.below hb, h.pd.below hb, h.ok, h.hn, h.fl⟩
theorem RdO.chg {w w' : World} {O O' : Nat → Prop} {A : Option Addr} {xs : List Value} (h : RdO w O A xs) (c : Chg w w' O') (hO : ∀ k, O' k → O k) : RdO w' O A xs := fun hn =>
  let ⟨b, off, e, hl, ho, hc⟩ := h hn
  ⟨b, off, e, Nat.lt_of_lt_of_le hl c.size, ho, fun j v hv => (c.cell hl (fun hk => ho (hO b hk)) _).trans (hc j v hv)⟩
theorem Lies.chg {w w' : World} {O O' : Nat → Prop} {d : RD} (h : Lies w O d) (c : Chg w w' O') (hO : ∀ k, O' k → O k) : Lies w' O d := ⟨h.st.chg c hO, h.pd.chg c hO, h.ok, h.hn, h.fl⟩
theorem RdO.weak {w : World} {O O' : Nat → Prop} {A : Option Addr} {xs : List Value} (h : RdO w O A xs) (hO : ∀ k, k < w.heap.size → O' k → O k) : RdO w O' A xs := fun hn =>
  let ⟨b, off, e, hl, ho, hc⟩ := h hn
  ⟨b, off, e, hl, fun hk => ho (hO b hl hk), hc⟩
theorem Lies.weak {w : World} {O O' : Nat → Prop} {d : RD} (h : Lies w O d) (hO : ∀ k, k < w.heap.size → O' k → O k) : Lies w O' d := ⟨h.st.weak hO, h.pd.weak hO, h.ok, h.hn, h.fl⟩
/-- What lay there ahead of a call lies in none of the call's own blocks. -/
theorem Lies.mine {w w' : World} {O : Nat → Prop} {d : RD} (h : Lies w O d) (hb : Below w.heap.size w w') : Lies w' (fun k => O k ∨ w.heap.size ≤ k ∧ k < w'.heap.size) d :=
  (h.weak (O' := fun k => O k ∨ w.heap.size ≤ k ∧ k < w'.heap.size) fun k hk ho => ho.elim id fun h2 => by omega).below hb
theorem mine_lt {w w' : World} {O : Nat → Prop} (hO : ∀ k, O k → k < w.heap.size) (hb : Below w.heap.size w w') : ∀ k, (O k ∨ w.heap.size ≤ k ∧ k < w'.heap.size) → k < w'.heap.size := fun k hk =>
  hk.elim (fun h => Nat.lt_of_lt_of_le (hO k h) hb.size) fun h => h.2

/-! ### New -/
def newR (n : Nat) : RSt := ⟨List.replicate n zsec, [], 0, -1, false⟩
def newD (n g : Nat) : RD := ⟨newR n, some ⟨g, 0, none⟩, n, none, 0⟩
theorem newD_cs (n g : Nat) : (newD n g).cs.toArray = #[.slice (some ⟨g, 0, none⟩) n n, .slice none 0 0, .int .i64 0, .int .i64 (-1), .bool false] := by
  simp [RD.cs, newD, newR]
theorem build_newD (n g : Nat) (w : World) : (Instr.build 47 #[(0, .slice (some ⟨g, 0, none⟩) n n), (3, .int .i64 (-1))]).run Try.prog w = .ok (.agg (newD n g).cs.toArray) w := by
  rw [newD_cs]
  refine run_build w _ _ _ ?_
  kernel_rfl
theorem ex_build03 {o : Oper} {a : Act} {w : World} {T : TypeId} (x0 x1 : Operand) (ho : o.op = .build T #[(0, x0), (3, x1)]) (v0 v1 r : Value) (h0 : a.eval x0 = v0) (h1 : a.eval x1 = v1)
    (h : (Instr.build T #[(0, v0), (3, v1)]).run Try.prog w = .ok r w) : (execOp a.eval o).run Try.prog w = .ok (.value r) w := by
  unfold execOp
  subst h0 h1
  simp only [ho, List.map_toArray, List.map_cons, List.map_nil, h, Sem.run_bind, Sem.run_pure, Result.andThen_ok]
theorem rnew_in (x : Int) (w : World) (O : Nat → Prop) (hO : ∀ k, O k → k < w.heap.size) (n : Nat) (hn : n = manyF x) (fl : Array Value) (hfl : fl = (flat (List.replicate n zsec)).toArray) (V : Int) (hV : V = n) (hx : V = min (max x 0) 1024) : Calls Try.prog 18 #[.int .i64 x] w fun e w' =>
    ∃ d : RD, d.s = newR n ∧ e = .returned (.agg d.cs.toArray) ∧ Lies w' O d ∧ Below w.heap.size w w' := by
  have HN := Lib.hid (show n ≤ 1024 by rw [hn]; unfold manyF; omega)
  have hz : ∀ w, Sem.run Try.prog (zeroValue 47) w = .ok (.agg zrd.cs.toArray) w := zeroRd
  have hk : ∀ w, (Instr.makeSlice 44 (.int .i64 V) (.int .i64 V)).run Try.prog w = .ok (.slice (some ⟨w.heap.size, 0, none⟩) n n) (w.alloc (.cells fl 34)) := fun w => by
    rw [hV, hfl]
    exact run_make_sec n HN.out w
  have HBD := Lib.hid (build_newD n)
  have HZ : Hid (Blk ((w.alloc (.cells zrd.cs.toArray 47)).alloc (.cells fl 34)) w.heap.size 47 zrd.cs.toArray) :=
    (Blk.new w _ _).below ((Below.refl (w.alloc (.cells zrd.cs.toArray 47)).heap.size _).alloc (Nat.le_refl _) _) (by simp)
  have HF : ∀ w3, Hid (Hid (w3 = ((w.alloc (.cells zrd.cs.toArray 47)).alloc (.cells fl 34)).setCells w.heap.size 0 (newD n (w.heap.size + 1)).cs) → Lies w3 O (newD n (w.heap.size + 1)) ∧ Below w.heap.size w w3 ∧ Blk w3 w.heap.size 47 (newD n (w.heap.size + 1)).cs.toArray) := by
    intro w3 hw
    have hw := hw.out
    have h1 := Blk.new (w.alloc (.cells zrd.cs.toArray 47)) 34 fl
    rw [show (w.alloc (.cells zrd.cs.toArray 47)).heap.size = w.heap.size + 1 by simp] at h1
    have h2 : Blk w3 (w.heap.size + 1) 34 fl := by
      rw [hw]
      exact h1.chg (O := (· = w.heap.size)) (Chg.setCells (O := (· = w.heap.size)) (.inl rfl) _ _ (Chg.refl _ _)) (by omega)
    refine ⟨⟨fun _ => ⟨w.heap.size + 1, 0, rfl, h2.lt, fun ho => by have := hO _ ho; omega, fun j v hv => ?_⟩, RdO.nil, (fun _ h => by cases h), ?_, ?_⟩, ?_, ?_⟩
    · rw [Nat.zero_add, h2.cell j, hfl, List.getElem?_toArray]
      exact hv
    · show (List.replicate n zsec).length ≤ 1024
      rw [List.length_replicate]
      exact HN.out
    · exact ⟨by show _ ≤ (-1 : Int); omega, by show (-1 : Int) ≤ _; omega⟩
    · rw [hw]
      exact Below.setCells _ (Nat.le_refl _) _ _ (((Below.refl _ _).alloc (Nat.le_refl _) _).alloc (by simp) _)
    · rw [hw]
      exact HZ.out.rdAll _
  clear hfl hV HN hn hO
  rcases Int.lt_trichotomy x 0 with h | h | h
  · obtain rfl : V = 0 := by omega
    clear hx
    go_enter Try.func18, Try.ntmps18
    go_wp2_with (first
      | (refine wpList_val (by rfl) (.agg (newD n (w.heap.size + 1)).cs.toArray) (ex_build03 (.tmp 10) (.const (.int .i64 (-1))) rfl (.slice (some ⟨w.heap.size + 1, 0, none⟩) n n) (.int .i64 (-1)) _ rfl rfl (HBD.out (w.heap.size + 1) _)) ?_)
      | (with_reducible refine st_rd rfl _ _ rfl w.heap.size 0 (newD n (w.heap.size + 1)) rfl rfl HZ.out.rdHas ?_; intro w3 hw3))
    obtain ⟨h1, h2, h3⟩ := (HF w3).out hw3
    exact bodyPost_ret (results_cell_row rfl _ _ _ _ _ _ _ rfl h3 Try.underlying47 rfl (sizeRd'' _)) rfl ⟨_, rfl, rfl, h1, h2⟩
  · obtain rfl : V = 0 := by omega
    clear hx
    subst h
    go_enter Try.func18, Try.ntmps18
    go_wp2_with (first
      | (refine wpList_val (by rfl) (.agg (newD n (w.heap.size + 1)).cs.toArray) (ex_build03 (.tmp 10) (.const (.int .i64 (-1))) rfl (.slice (some ⟨w.heap.size + 1, 0, none⟩) n n) (.int .i64 (-1)) _ rfl rfl (HBD.out (w.heap.size + 1) _)) ?_)
      | (with_reducible refine st_rd rfl _ _ rfl w.heap.size 0 (newD n (w.heap.size + 1)) rfl rfl HZ.out.rdHas ?_; intro w3 hw3))
    obtain ⟨h1, h2, h3⟩ := (HF w3).out hw3
    exact bodyPost_ret (results_cell_row rfl _ _ _ _ _ _ _ rfl h3 Try.underlying47 rfl (sizeRd'' _)) rfl ⟨_, rfl, rfl, h1, h2⟩
  · by_cases h2 : x ≤ 1024
    · obtain rfl : V = x := by omega
      clear hx
      go_enter Try.func18, Try.ntmps18
      go_wp2_with (first
      | (refine wpList_val (by rfl) (.agg (newD n (w.heap.size + 1)).cs.toArray) (ex_build03 (.tmp 10) (.const (.int .i64 (-1))) rfl (.slice (some ⟨w.heap.size + 1, 0, none⟩) n n) (.int .i64 (-1)) _ rfl rfl (HBD.out (w.heap.size + 1) _)) ?_)
      | (with_reducible refine st_rd rfl _ _ rfl w.heap.size 0 (newD n (w.heap.size + 1)) rfl rfl HZ.out.rdHas ?_; intro w3 hw3))
      obtain ⟨h1, h2, h3⟩ := (HF w3).out hw3
      exact bodyPost_ret (results_cell_row rfl _ _ _ _ _ _ _ rfl h3 Try.underlying47 rfl (sizeRd'' _)) rfl ⟨_, rfl, rfl, h1, h2⟩
    · obtain rfl : V = 1024 := by omega
      clear hx
      go_enter Try.func18, Try.ntmps18
      go_wp2_with (first
      | (refine wpList_val (by rfl) (.agg (newD n (w.heap.size + 1)).cs.toArray) (ex_build03 (.tmp 10) (.const (.int .i64 (-1))) rfl (.slice (some ⟨w.heap.size + 1, 0, none⟩) n n) (.int .i64 (-1)) _ rfl rfl (HBD.out (w.heap.size + 1) _)) ?_)
      | (with_reducible refine st_rd rfl _ _ rfl w.heap.size 0 (newD n (w.heap.size + 1)) rfl rfl HZ.out.rdHas ?_; intro w3 hw3))
      obtain ⟨h1, h2, h3⟩ := (HF w3).out hw3
      exact bodyPost_ret (results_cell_row rfl _ _ _ _ _ _ _ rfl h3 Try.underlying47 rfl (sizeRd'' _)) rfl ⟨_, rfl, rfl, h1, h2⟩
theorem rnew_any (x : Int) (w : World) (O : Nat → Prop) (hO : ∀ k, O k → k < w.heap.size) : Calls Try.prog 18 #[.int .i64 x] w fun e w' =>
    ∃ d : RD, d.s = newR (manyF x) ∧ e = .returned (.agg d.cs.toArray) ∧ Lies w' O d ∧ Below w.heap.size w w' :=
  rnew_in x w O hO _ rfl _ rfl _ rfl (by unfold manyF; omega)

/-! ### There, At -/
theorem rthere_any (d : RD) (i : Int) (w : World) : Calls Try.prog 57 #[.agg d.cs.toArray, .int .i64 i] w fun e w' => e = .returned (.bool (hasF d.s.st.length i)) ∧ Below w.heap.size w w' := by
  obtain ⟨c0, _⟩ := (rd_box w d).rdF
  have HB := Lib.hid (show Below w.heap.size w (w.alloc (.cells d.cs.toArray 47)) from (Below.refl _ _).alloc (Nat.le_refl _) _)
  generalize d.s.st.length = n at *
  unfold hasF
  by_cases h1 : 0 ≤ i
  · by_cases h2 : i < n
    · have hd : decide (0 ≤ i ∧ i < (n : Int)) = true := by simp [h1, h2]
      rw [hd]
      go_enter Try.func57, Try.ntmps57
      go_wp2_with fail
      go_ret
      exact ⟨rfl, HB.out⟩
    · have hd : decide (0 ≤ i ∧ i < (n : Int)) = false := by simp; omega
      rw [hd]
      go_enter Try.func57, Try.ntmps57
      go_wp2_with fail
      go_ret
      exact ⟨rfl, HB.out⟩
  · have hd : decide (0 ≤ i ∧ i < (n : Int)) = false := by simp; omega
    rw [hd]
    go_enter Try.func57, Try.ntmps57
    go_wp2_with fail
    go_ret
    exact ⟨rfl, HB.out⟩
def ratF (s : RSt) (i : Int) : Sec := if hasF s.st.length i = true then s.st.getD i.toNat zsec else zsec
/-- A box and a result's block ahead of it. -/
theorem two_rs (w : World) (d : RD) (s : Sec) : Blk ((w.alloc (.cells d.cs.toArray 47)).alloc (.cells s.cs.toArray 34)) w.heap.size 47 d.cs.toArray ∧ Blk ((w.alloc (.cells d.cs.toArray 47)).alloc (.cells s.cs.toArray 34)) (w.heap.size + 1) 34 s.cs.toArray ∧
    Below w.heap.size w ((w.alloc (.cells d.cs.toArray 47)).alloc (.cells s.cs.toArray 34)) := by
  have h2 := Blk.new (w.alloc (.cells d.cs.toArray 47)) 34 s.cs.toArray
  rw [show (w.alloc (.cells d.cs.toArray 47)).heap.size = w.heap.size + 1 by simp] at h2
  exact ⟨(rd_box w d).below ((Below.refl (w.alloc (.cells d.cs.toArray 47)).heap.size _).alloc (Nat.le_refl _) _) (by simp), h2, ((Below.refl _ _).alloc (Nat.le_refl _) _).alloc (by simp) _⟩
theorem rat_any {w : World} {O : Nat → Prop} {d : RD} (h : Lies w O d) (i : Int) : Calls Try.prog 29 #[.agg d.cs.toArray, .int .i64 i] w fun e w' => e = .returned (.agg (ratF d.s i).cs.toArray) ∧ Below w.heap.size w w' := by
  have hz : ∀ w, Sem.run Try.prog (zeroValue 34) w = .ok (.agg zsec.cs.toArray) w := zeroSec
  have hbd : ∀ w, (Instr.build 34 #[]).run Try.prog w = .ok (.agg zsec.cs.toArray) w := buildZ
  have HT := Lib.hid (two_rs w d zsec)
  have HTH := Lib.hid (rthere_any d i)
  unfold ratF
  by_cases h1 : hasF d.s.st.length i = true
  · rw [if_pos h1]
    rw [h1] at HTH
    have h1' := h1
    unfold hasF at h1'
    rw [decide_eq_true_iff] at h1'
    obtain ⟨hi0, hin⟩ := h1'
    obtain ⟨k, rfl⟩ := Int.eq_ofNat_of_zero_le hi0
    have hkn : k < d.s.st.length := by omega
    obtain ⟨b, off, e, hr⟩ := h.st.sec k hkn
    rw [Int.toNat_natCast, show d.s.st.getD k zsec = d.s.st[k] from by simp [List.getD, hkn]]
    have HR := Lib.hid hr
    have hbl : b < w.heap.size := by
      obtain ⟨b', off', e', hl, _⟩ := h.st (by rw [flat_len]; omega)
      rw [e] at e'
      cases e'
      exact hl
    have HBL := Lib.hid hbl
    have HE := Lib.hid e
    generalize d.s.st[k] = x at *
    clear h h1 hr e hbl hkn
    have HRR : ∀ w1, Hid (Below w.heap.size w w1 → w1.rangeAt b (off + k * 128) x.cs) := fun w1 hb j v hj => (hb.cell (p := ⟨b, off + k * 128 + j, none⟩) HBL.out).trans (HR.out j v hj)
    go_enter Try.func29, Try.ntmps29
    go_wp2_with (first
      | (with_reducible refine ld_rd rfl _ rfl w.heap.size 0 d rfl HT.out.1.rdIs ?_)
      | (go_at_call 57; with_reducible refine Calls.mono (HTH.out _) ?_; rintro e w1 ⟨rfl, hb1⟩
         have HB1 := Lib.hid (HT.out.2.2.trans (hb1.mono HT.out.2.2.size))
         have c0 := (HT.out.1.below hb1 HT.out.1.lt).rdF.1
         rw [HE.out] at c0
         have HS1 := Lib.hid (HT.out.2.1.below hb1 HT.out.2.1.lt)
         clear hb1)
      | (with_reducible refine ld_sec rfl _ rfl b (off + k * 128) x rfl ((HRR _).out HB1.out) ?_)
      | (with_reducible refine st_sec rfl _ _ rfl (w.heap.size + 1) 0 x rfl rfl HS1.out.secHas ?_; intro w2 hw2))
    have h3 : Blk w2 (w.heap.size + 1) 34 x.cs.toArray := by rw [hw2.out]; exact HS1.out.secAll x
    exact bodyPost_ret (results_cell_row rfl _ _ _ _ _ _ _ rfl h3 Try.underlying34 rfl (sizeSec'' _)) rfl ⟨rfl, by rw [hw2.out]; exact Below.setCells _ (by omega) _ _ HB1.out⟩
  · have hf : hasF d.s.st.length i = false := by simpa using h1
    rw [if_neg h1]
    rw [hf] at HTH
    clear h1 hf h
    go_enter Try.func29, Try.ntmps29
    go_wp2_with (first
      | (with_reducible refine ld_rd rfl _ rfl w.heap.size 0 d rfl HT.out.1.rdIs ?_)
      | (go_at_call 57; with_reducible refine Calls.mono (HTH.out _) ?_; rintro e w1 ⟨rfl, hb1⟩
         have HB1 := Lib.hid (HT.out.2.2.trans (hb1.mono HT.out.2.2.size))
         have HS1 := Lib.hid (HT.out.2.1.below hb1 HT.out.2.1.lt)
         clear hb1)
      | (with_reducible refine st_sec rfl _ _ rfl (w.heap.size + 1) 0 zsec rfl rfl HS1.out.secHas ?_; intro w2 hw2))
    have h3 : Blk w2 (w.heap.size + 1) 34 zsec.cs.toArray := by rw [hw2.out]; exact HS1.out.secAll zsec
    exact bodyPost_ret (results_cell_row rfl _ _ _ _ _ _ _ rfl h3 Try.underlying34 rfl (sizeSec'' _)) rfl ⟨rfl, by rw [hw2.out]; exact Below.setCells _ (by omega) _ _ HB1.out⟩
theorem infoRW : (Try.prog.info? 120).map (fun i => (i.zero, i.size, i.bytes)) = some (some (.agg (wcs (0, zsec)).toArray), 129, 136) := by kernel_rfl
theorem sizeRW : (Try.prog.info? 120).map (·.size) = some 129 := by kernel_rfl
theorem sizeRW' (p : Nat × Sec) : (Try.prog.info? 120).map (·.size) = some (wcs p).length := by rw [wcs_len]; exact sizeRW
theorem sizeRW'' (p : Nat × Sec) : (Try.prog.info? 120).map (·.size) = some (wcs p).toArray.size := by rw [List.size_toArray, wcs_len]; exact sizeRW
theorem zeroRW (w : World) : Sem.run Try.prog (zeroValue 120) w = .ok (.agg (wcs (0, zsec)).toArray) w := by
  obtain ⟨i, hi, hz, _, _⟩ := info_parts infoRW
  simp [zeroValue, typeInfo, hi, hz]
theorem ld_rw {ops : Array Oper} {rest : List Oper} {o : Oper} {a : Act} {w : World} {Q : Exit → Act → World → Prop} (hgd : o.guard = none) (x : Operand) (ho : o.op = .load 120 x)
    (b k : Nat) (p : Nat × Sec) (hx : a.eval x = .pointer (some ⟨b, k, none⟩)) (hr : w.rangeAt b k (wcs p))
    (h : wpList Try.prog ops Q rest (a.put o.dst (.agg (wcs p).toArray)) w) : wpList Try.prog ops Q (o :: rest) a w :=
  wpList_load_mid hgd _ x ho b k hx (wcs p) _ hr Try.underlying120 rfl (sizeRW' p) h
theorem st_rw {ops : Array Oper} {rest : List Oper} {o : Oper} {a : Act} {w : World} {Q : Exit → Act → World → Prop} (hgd : o.guard = none) (x y : Operand) (ho : o.op = .store 120 x y)
    (b k : Nat) (p : Nat × Sec) (hx : a.eval x = .pointer (some ⟨b, k, none⟩)) (hy : a.eval y = .agg (wcs p).toArray) (ht : w.there b k 129)
    (h : ∀ w', Hid (w' = w.setCells b k (wcs p)) → wpList Try.prog ops Q rest (a.put o.dst undef) w') : wpList Try.prog ops Q (o :: rest) a w :=
  wpList_store_mid hgd _ x y ho b k (wcs p).toArray hx hy (by rw [List.size_toArray, wcs_len]; exact ht) (sizeRW'' p) (all_one (wcs_one p)) (h _ rfl)
theorem new_rw {w w' : World} {p : Nat × Sec} (h : w' = (w.alloc (.cells (wcs (0, zsec)).toArray 120)).setCells w.heap.size 0 (wcs p)) : Blk w' w.heap.size 120 (wcs p).toArray ∧ Below w.heap.size w w' := by
  subst h
  exact ⟨Blk.wAll (p := (0, zsec)) (Blk.new w _ _) p, Below.setCells _ (Nat.le_refl _) _ _ ((Below.refl _ _).alloc (Nat.le_refl _) _)⟩

/-! ### Now -/
def nowF (s : RSt) (i : Int) (k : Nat) : Sec := (s.pend.take k).foldl (fun x p => if (p.1 : Int) = i then p.2 else x) (ratF s i)
def rnowF (s : RSt) (i : Int) : Sec := nowF s i s.pend.length
theorem nowF_succ (s : RSt) (i : Int) (k : Nat) (hk : k < s.pend.length) : nowF s i (k + 1) = if ((s.pend[k].1 : Nat) : Int) = i then s.pend[k].2 else nowF s i k := by
  unfold nowF
  rw [List.take_succ_eq_append_getElem hk, List.foldl_append]
  rfl
structure NInv (w wr : World) (g : Nat) (x : Sec) : Prop where
  cur : Blk wr g 34 x.cs.toArray
  res : Blk wr (w.heap.size + 1) 34 zsec.cs.toArray
  below : Below w.heap.size w wr
  ne : w.heap.size + 1 < g
theorem NInv.fresh {w wr wr' : World} {g : Nat} {x : Sec} (h : NInv w wr g x) (hb : Below wr.heap.size wr wr') : NInv w wr' g x :=
  ⟨h.cur.below hb h.cur.lt, h.res.below hb h.res.lt, h.below.trans (hb.mono h.below.size), h.ne⟩
theorem NInv.set {w wr wr' : World} {g : Nat} {x : Sec} (h : NInv w wr g x) (y : Sec) (hw : wr' = wr.setCells g 0 y.cs) : NInv w wr' g y := by
  subst hw
  exact ⟨h.cur.secAll y, h.res.chg (O := (· = g)) (Chg.setCells (O := (· = g)) (.inl rfl) _ _ (Chg.refl _ _)) (by have := h.ne; omega), Below.setCells _ (by have := h.ne; omega) _ _ h.below, h.ne⟩
set_option maxHeartbeats 1000000 in
theorem rnow_any {w : World} {O : Nat → Prop} {d : RD} (h : Lies w O d) (hp : d.s.pend.length ≤ 1000000) (i : Int) : Calls Try.prog 58 #[.agg d.cs.toArray, .int .i64 i] w fun e w' => e = .returned (.agg (rnowF d.s i).cs.toArray) ∧ Below w.heap.size w w' := by
  have hz : ∀ w, Sem.run Try.prog (zeroValue 34) w = .ok (.agg zsec.cs.toArray) w := zeroSec
  have hzw : ∀ w, Sem.run Try.prog (zeroValue 120) w = .ok (.agg (wcs (0, zsec)).toArray) w := zeroRW
  have HT := Lib.hid (two_rs w d zsec)
  have HA := Lib.hid (rat_any (h.below HT.out.2.2) i)
  obtain ⟨A, hA⟩ : ∃ A, A = d.pa := ⟨_, rfl⟩
  have HP : Hid (RdO w O A (flatW d.s.pend)) := by
    rw [hA]
    exact h.pd
  have HAA := Lib.hid hA
  have HPL := Lib.hid hp
  have hpi : (d.s.pend.length : Int) ≤ 1000000 := by omega
  have H0 : Hid (ratF d.s i = nowF d.s i 0) := rfl
  clear h hA hp
  go_enter Try.func58, Try.ntmps58
  go_wp2_with (first
    | (with_reducible refine ld_rd rfl _ rfl w.heap.size 0 d rfl HT.out.1.rdIs ?_)
    | (go_at_call 29; with_reducible refine Calls.mono HA.out ?_; rintro e w1 ⟨rfl, hb1⟩
       have HB1 := Lib.hid (HT.out.2.2.trans (hb1.mono HT.out.2.2.size))
       have HR1 := Lib.hid (HT.out.1.below hb1 HT.out.1.lt)
       have HS1 := Lib.hid (HT.out.2.1.below hb1 HT.out.2.1.lt)
       clear hb1)
    | (with_reducible refine st_sec rfl _ _ rfl w1.heap.size 0 (ratF d.s i) rfl rfl (Blk.secHas (s := zsec) (Blk.new w1 _ _)) ?_; intro w2 hw2
       have HN2 : Hid (NInv w w2 w1.heap.size (nowF d.s i 0)) := ⟨(new_secs hw2.out).1, HS1.out.below (new_secs hw2.out).2 HS1.out.lt, HB1.out.trans ((new_secs hw2.out).2.mono HB1.out.size), HS1.out.lt⟩
       have c1 := (HR1.out.below (new_secs hw2.out).2 HR1.out.lt).rdF.2.1
       rw [← HAA.out] at c1))
  clear c1 HR1 HS1 HB1 hw2 HAA
  generalize w1.heap.size = g5 at *
  go_loopw [14] (fun i' wr => ∃ (k : Nat), k ≤ d.s.pend.length ∧ i' = .int .i64 k ∧ NInv w wr g5 (nowF d.s i k)) (fun i' _ => d.s.pend.length - (intOf i').toNat)
  case atStart => exact ⟨0, Nat.zero_le _, rfl, HN2.out⟩
  case round =>
    clear HN2
    obtain ⟨k, hk, rfl, hN⟩ := hrel
    have HN := Lib.hid hN
    clear hN
    by_cases hlt : k < d.s.pend.length
    · have hki : (k : Int) < d.s.pend.length := by omega
      obtain ⟨b, off, rfl, _, hr⟩ := (RdO.wr (l := d.s.pend) (w := wr) (O := O) (fun hn => let ⟨b, off, e, hl, ho, hc⟩ := HP.out hn; ⟨b, off, e, Nat.lt_of_lt_of_le hl HN.out.below.size, ho, fun j v hv => (HN.out.below.cell (p := ⟨b, off + j, none⟩) hl).trans (hc j v hv)⟩)) k hlt
      have HS := Lib.hid (nowF_succ d.s i k hlt)
      have HR := Lib.hid hr
      have HK := Lib.hid hlt
      generalize d.s.pend[k] = p at *
      clear hr hk hlt HP
      obtain ⟨a, x⟩ := p
      by_cases hai : (a : Int) = i
      · rw [if_pos hai] at HS
        have hq : ((a : Int) == i) = true := by rw [beq_iff_eq]; exact hai
        clear hai
        go_wp2_with (first
          | (with_reducible refine ld_rw rfl _ rfl b (off + k * 129) (a, x) rfl HR.out ?_)
          | (with_reducible refine st_rw rfl _ _ rfl wr.heap.size 0 (a, x) rfl rfl (Blk.wHas (p := (0, zsec)) (Blk.new wr _ _)) ?_; intro w3 hw3
             have HW3 := Lib.hid (new_rw hw3.out).1
             have HN3 := Lib.hid (HN.out.fresh (new_rw hw3.out).2)
             have c0 := HW3.out.wNum)
          | (with_reducible refine ld_sec rfl _ rfl wr.heap.size 1 x rfl HW3.out.wSec ?_)
          | (with_reducible refine st_sec rfl _ _ rfl g5 0 x rfl rfl HN3.out.cur.secHas ?_; intro w4 hw4))
        go_roundw
        case rel => exact ⟨k + 1, HK.out, by go_num, by rw [HS.out]; exact HN3.out.set x hw4.out⟩
        case measure => have := HK.out; simp [intOf]; omega
      · rw [if_neg hai] at HS
        have hq : ((a : Int) == i) = false := by rw [beq_eq_false_iff_ne]; exact hai
        clear hai
        go_wp2_with (first
          | (with_reducible refine ld_rw rfl _ rfl b (off + k * 129) (a, x) rfl HR.out ?_)
          | (with_reducible refine st_rw rfl _ _ rfl wr.heap.size 0 (a, x) rfl rfl (Blk.wHas (p := (0, zsec)) (Blk.new wr _ _)) ?_; intro w3 hw3
             have HW3 := Lib.hid (new_rw hw3.out).1
             have HN3 := Lib.hid (HN.out.fresh (new_rw hw3.out).2)
             have c0 := HW3.out.wNum))
        go_roundw
        case rel => exact ⟨k + 1, HK.out, by go_num, by rw [HS.out]; exact HN3.out⟩
        case measure => have := HK.out; simp [intOf]; omega
    · obtain rfl : k = d.s.pend.length := by omega
      clear hk hlt HP
      have HE : Hid (nowF d.s i d.s.pend.length = rnowF d.s i) := rfl
      rw [HE.out] at HN
      clear HE
      obtain ⟨x, hx⟩ : ∃ x, x = rnowF d.s i := ⟨_, rfl⟩
      rw [← hx] at HN
      have HX := Lib.hid hx
      clear hx
      go_wp2_with (first
        | (with_reducible refine ld_sec rfl _ rfl g5 0 x rfl HN.out.cur.secIs ?_)
        | (with_reducible refine st_sec rfl _ _ rfl (w.heap.size + 1) 0 x rfl rfl HN.out.res.secHas ?_; intro w4 hw4))
      have h3 : Blk w4 (w.heap.size + 1) 34 x.cs.toArray := by rw [hw4.out]; exact HN.out.res.secAll x
      exact bodyPost_ret (results_cell_row rfl _ _ _ _ _ _ _ rfl h3 Try.underlying34 rfl (sizeSec'' _)) rfl ⟨by rw [HX.out], by rw [hw4.out]; exact Below.setCells _ (by omega) _ _ HN.out.below⟩

/-! ### power, Break -/
def RSt.pow (s : RSt) : RSt := if s.dead = true then s else if s.fuel = 0 then { s with dead := true } else if 0 < s.fuel then { s with fuel := s.fuel - 1 } else s
def RSt.brk (s : RSt) (n : Int) : RSt := { s with fuel := if n < 0 then -1 else n }
theorem two_rr (w : World) (d : RD) (s : RD) : Blk ((w.alloc (.cells d.cs.toArray 47)).alloc (.cells s.cs.toArray 47)) w.heap.size 47 d.cs.toArray ∧ Blk ((w.alloc (.cells d.cs.toArray 47)).alloc (.cells s.cs.toArray 47)) (w.heap.size + 1) 47 s.cs.toArray ∧
    Below w.heap.size w ((w.alloc (.cells d.cs.toArray 47)).alloc (.cells s.cs.toArray 47)) := by
  have h2 := Blk.new (w.alloc (.cells d.cs.toArray 47)) 47 s.cs.toArray
  rw [show (w.alloc (.cells d.cs.toArray 47)).heap.size = w.heap.size + 1 by simp] at h2
  exact ⟨(rd_box w d).below ((Below.refl (w.alloc (.cells d.cs.toArray 47)).heap.size _).alloc (Nat.le_refl _) _) (by simp), h2, ((Below.refl _ _).alloc (Nat.le_refl _) _).alloc (by simp) _⟩
/-- A call's box and its result's block, while the call goes. -/
structure Box (w wr : World) (d r : RD) : Prop where
  box : Blk wr w.heap.size 47 d.cs.toArray
  res : Blk wr (w.heap.size + 1) 47 r.cs.toArray
  below : Below w.heap.size w wr
section
variable {w wr wr' : World} {d d' r : RD}
theorem Box.start (w : World) (d : RD) : Box w ((w.alloc (.cells d.cs.toArray 47)).alloc (.cells zrd.cs.toArray 47)) d zrd := ⟨(two_rr w d zrd).1, (two_rr w d zrd).2.1, (two_rr w d zrd).2.2⟩
theorem Box.fresh (h : Box w wr d r) (hb : Below wr.heap.size wr wr') : Box w wr' d r :=
  ⟨h.box.below hb h.box.lt, h.res.below hb h.res.lt, h.below.trans (hb.mono h.below.size)⟩
theorem Box.put (h : Box w wr d r) (i : Nat) (v : Value) (hd : d.cs.toArray.setIfInBounds i v = d'.cs.toArray) : Box w (wr.setCell ⟨w.heap.size, i, none⟩ v) d' r :=
  ⟨by rw [← hd]; exact h.box.set_ i v, h.res.far (p := ⟨w.heap.size, i, none⟩) (by simp) v, h.below.setCell (by simp) v⟩
theorem Box.set (h : Box w wr d r) (hw : wr' = wr.setCells w.heap.size 0 d'.cs) : Box w wr' d' r := by
  subst hw
  exact ⟨h.box.rdAll d', h.res.chg (O := (· = w.heap.size)) (Chg.setCells (O := (· = w.heap.size)) (.inl rfl) _ _ (Chg.refl _ _)) (by omega), Below.setCells _ (Nat.le_refl _) _ _ h.below⟩
theorem Box.out (h : Box w wr d r) (hw : wr' = wr.setCells (w.heap.size + 1) 0 d'.cs) : Blk wr' (w.heap.size + 1) 47 d'.cs.toArray ∧ Below w.heap.size w wr' := by
  subst hw
  exact ⟨h.res.rdAll d', Below.setCells _ (by omega) _ _ h.below⟩
end
theorem power_any (d : RD) (hf : I64 d.s.fuel) (w : World) : Calls Try.prog 69 #[.agg d.cs.toArray] w fun e w' => e = .returned (.tuple #[.agg (RD.cs { d with s := d.s.pow }).toArray, .bool (!d.s.pow.dead)]) ∧ Below w.heap.size w w' := by
  have hz : ∀ w, Sem.run Try.prog (zeroValue 47) w = .ok (.agg zrd.cs.toArray) w := zeroRd
  have HB := Lib.hid (Box.start w d)
  obtain ⟨_, _, _, c3, c4, cf⟩ := (Box.start w d).box.rdF
  obtain ⟨hf1, hf2⟩ := hf
  cases hd : d.s.dead with
  | true =>
    have HP : Hid (d.s.pow = d.s) := by unfold RSt.pow; rw [if_pos hd]; rfl
    rw [HP.out, hd]
    rw [hd] at c4
    have H1 := Lib.hid (HB.out.put (d' := d) 4 (.bool true) (by simp [RD.cs, hd]))
    clear hd
    go_enter Try.func69, Try.ntmps69
    go_upto_region 1 with (fail)
    generalize (w.alloc (.cells d.cs.toArray 47)).alloc (.cells zrd.cs.toArray 47) = w2' at *
    go_wp2_with (first
      | (with_reducible refine ld_rd rfl _ rfl w.heap.size 0 d rfl H1.out.box.rdIs ?_)
      | (with_reducible refine st_rd rfl _ _ rfl (w.heap.size + 1) 0 d rfl rfl H1.out.res.rdHas ?_; intro w2 hw2))
    obtain ⟨h3, h4⟩ := H1.out.out hw2.out
    exact bodyPost_ret (results_row_tmp rfl _ _ _ _ _ _ _ rfl h3 Try.underlying47 rfl (sizeRd'' _)) rfl ⟨rfl, h4⟩
  | false =>
    rw [hd] at c4
    rcases Int.lt_trichotomy d.s.fuel 0 with hlt | hlt | hlt
    · have HP : Hid (d.s.pow = d.s) := by unfold RSt.pow; rw [if_neg (by rw [hd]; simp), if_neg (by omega), if_neg (by omega)]; rfl
      rw [HP.out, hd]
      have hb1 : (d.s.fuel == 0) = false := by rw [beq_eq_false_iff_ne]; omega
      have hb2 : ¬ 0 < d.s.fuel := by omega
      clear hd
      go_enter Try.func69, Try.ntmps69
      go_upto_region 1 with (fail)
      generalize (w.alloc (.cells d.cs.toArray 47)).alloc (.cells zrd.cs.toArray 47) = w2' at *
      go_wp2_with (first
        | (with_reducible refine ld_rd rfl _ rfl w.heap.size 0 d rfl HB.out.box.rdIs ?_)
        | (with_reducible refine st_rd rfl _ _ rfl (w.heap.size + 1) 0 d rfl rfl HB.out.res.rdHas ?_; intro w2 hw2))
      obtain ⟨h3, h4⟩ := HB.out.out hw2.out
      exact bodyPost_ret (results_row_tmp rfl _ _ _ _ _ _ _ rfl h3 Try.underlying47 rfl (sizeRd'' _)) rfl ⟨rfl, h4⟩
    · have HP : Hid (d.s.pow = { d.s with dead := true }) := by unfold RSt.pow; rw [if_neg (by rw [hd]; simp), if_pos hlt]; rfl
      rw [HP.out]
      have hb1 : (d.s.fuel == 0) = true := by rw [beq_iff_eq]; exact hlt
      have H1 := Lib.hid (HB.out.put (d' := { d with s := { d.s with dead := true } }) 4 (.bool true) rfl)
      clear hd hlt
      go_enter Try.func69, Try.ntmps69
      go_upto_region 1 with (fail)
      generalize (w.alloc (.cells d.cs.toArray 47)).alloc (.cells zrd.cs.toArray 47) = w2' at *
      go_wp2_with (first
        | (with_reducible refine ld_rd rfl _ rfl w.heap.size 0 { d with s := { d.s with dead := true } } rfl H1.out.box.rdIs ?_)
        | (with_reducible refine st_rd rfl _ _ rfl (w.heap.size + 1) 0 { d with s := { d.s with dead := true } } rfl rfl H1.out.res.rdHas ?_; intro w2 hw2))
      obtain ⟨h3, h4⟩ := H1.out.out hw2.out
      exact bodyPost_ret (results_row_tmp rfl _ _ _ _ _ _ _ rfl h3 Try.underlying47 rfl (sizeRd'' _)) rfl ⟨rfl, h4⟩
    · have HP : Hid (d.s.pow = { d.s with fuel := d.s.fuel - 1 }) := by unfold RSt.pow; rw [if_neg (by rw [hd]; simp), if_neg (by omega), if_pos hlt]; rfl
      rw [HP.out]
      rw [show (RSt.dead { d.s with fuel := d.s.fuel - 1 }) = false from hd]
      have hb1 : (d.s.fuel == 0) = false := by rw [beq_eq_false_iff_ne]; omega
      have H1 := Lib.hid (HB.out.put (d' := { d with s := { d.s with fuel := d.s.fuel - 1 } }) 3 (.int .i64 (d.s.fuel - 1)) rfl)
      clear hd
      go_enter Try.func69, Try.ntmps69
      go_upto_region 1 with (fail)
      generalize (w.alloc (.cells d.cs.toArray 47)).alloc (.cells zrd.cs.toArray 47) = w2' at *
      go_wp2_with (first
        | (with_reducible refine ld_rd rfl _ rfl w.heap.size 0 { d with s := { d.s with fuel := d.s.fuel - 1 } } rfl H1.out.box.rdIs ?_)
        | (with_reducible refine st_rd rfl _ _ rfl (w.heap.size + 1) 0 { d with s := { d.s with fuel := d.s.fuel - 1 } } rfl rfl H1.out.res.rdHas ?_; intro w2 hw2))
      obtain ⟨h3, h4⟩ := H1.out.out hw2.out
      exact bodyPost_ret (results_row_tmp rfl _ _ _ _ _ _ _ rfl h3 Try.underlying47 rfl (sizeRd'' _)) rfl ⟨rfl, h4⟩
theorem rbreak_any (d : RD) (n : Int) (w : World) : Calls Try.prog 20 #[.agg d.cs.toArray, .int .i64 n] w fun e w' => e = .returned (.agg (RD.cs { d with s := d.s.brk n }).toArray) ∧ Below w.heap.size w w' := by
  have hz : ∀ w, Sem.run Try.prog (zeroValue 47) w = .ok (.agg zrd.cs.toArray) w := zeroRd
  have HB := Lib.hid (Box.start w d)
  obtain ⟨_, _, _, c3, _, cf⟩ := (Box.start w d).box.rdF
  have H1 := Lib.hid (HB.out.put (d' := { d with s := { d.s with fuel := n } }) 3 (.int .i64 n) rfl)
  by_cases hn : n < 0
  · have HP : Hid (d.s.brk n = { d.s with fuel := -1 }) := by unfold RSt.brk; rw [if_pos hn]; rfl
    rw [HP.out]
    have H2 := Lib.hid (H1.out.put (d' := { d with s := { d.s with fuel := -1 } }) 3 (.int .i64 (-1)) rfl)
    go_enter Try.func20, Try.ntmps20
    go_upto_region 1 with (fail)
    generalize (w.alloc (.cells d.cs.toArray 47)).alloc (.cells zrd.cs.toArray 47) = w2' at *
    go_wp2_with (first
      | (with_reducible refine ld_rd rfl _ rfl w.heap.size 0 { d with s := { d.s with fuel := -1 } } rfl H2.out.box.rdIs ?_)
      | (with_reducible refine st_rd rfl _ _ rfl (w.heap.size + 1) 0 { d with s := { d.s with fuel := -1 } } rfl rfl H2.out.res.rdHas ?_; intro w2 hw2))
    obtain ⟨h3, h4⟩ := H2.out.out hw2.out
    exact bodyPost_ret (results_cell_row rfl _ _ _ _ _ _ _ rfl h3 Try.underlying47 rfl (sizeRd'' _)) rfl ⟨rfl, h4⟩
  · have HP : Hid (d.s.brk n = { d.s with fuel := n }) := by unfold RSt.brk; rw [if_neg hn]; rfl
    rw [HP.out]
    go_enter Try.func20, Try.ntmps20
    go_upto_region 1 with (fail)
    generalize (w.alloc (.cells d.cs.toArray 47)).alloc (.cells zrd.cs.toArray 47) = w2' at *
    go_wp2_with (first
      | (with_reducible refine ld_rd rfl _ rfl w.heap.size 0 { d with s := { d.s with fuel := n } } rfl H1.out.box.rdIs ?_)
      | (with_reducible refine st_rd rfl _ _ rfl (w.heap.size + 1) 0 { d with s := { d.s with fuel := n } } rfl rfl H1.out.res.rdHas ?_; intro w2 hw2))
    obtain ⟨h3, h4⟩ := H1.out.out hw2.out
    exact bodyPost_ret (results_cell_row rfl _ _ _ _ _ _ _ rfl h3 Try.underlying47 rfl (sizeRd'' _)) rfl ⟨rfl, h4⟩
/-- append of all elements, each of so many cells, of a slice that is read as a list. -/
theorem app_many {P : Program} {T E : TypeId} {z : Value} {size bytes : Nat} (hT : P.underlying T = some (.slice E)) (hinfo : (P.info? E).map (fun i => (i.zero, i.size, i.bytes)) = some (some z, size, bytes)) (hz1 : z.cells.size = size) (hsz : 0 < size)
    {ops : Array Oper} {rest : List Oper} {o : Oper} {a : Act} {w : World} {Q : Exit → Act → World → Prop} (hgd : o.guard = none) (s x : Nat)
    (ho : o.op = .call { callee := .builtin .append, args := #[.tmp s, .tmp x], argTypes := #[T, T] })
    (base : Nat) (v : Value) (n : Nat) (xs : List Value) (hs : a.eval (.tmp s) = v) (hown : w.ownsRow base E size v n xs) (B : Nat) (A : Option Addr) (m c : Nat) (news : List Value)
    (hx : a.eval (.tmp x) = .slice A m c) (hm : news.length = m * size) (hr : Rd w B A news) (h1 : ∀ u ∈ news, u.oneCell' = true) (hbase : base ≤ w.heap.size) (hb0 : 0 < bytes) (hn : (n + m) * bytes ≤ 140737488355328)
    (h : ∀ v' w', w'.ownsRow base E size v' (n + m) (xs ++ news) → w.grownBy w' v.ownBlock → wpList P ops Q rest (a.put o.dst v') w') :
    wpList P ops Q (o :: rest) a w := by
  obtain ⟨i0, hi0, hz0, hz2, hz3⟩ := info_parts hinfo
  have hn1 : n + m ≤ 140737488355328 := Nat.le_trans (Nat.le_mul_of_pos_right _ hb0) hn
  rcases Nat.eq_zero_or_pos m with h0 | h0
  · subst h0
    obtain rfl : news = [] := List.eq_nil_of_length_eq_zero (by omega)
    refine wpList_plain hgd fun K hK => ?_
    have hrun := run_app_none (P := P) w base T o.type E i0 size hT hi0 v n xs hown A c
    unfold Oper.wp execOp
    simp only [ho, resolve, invoke, builtin, Sem.run_bind, Sem.run_pure, Result.andThen_ok, List.map_toArray, List.map_cons, List.map_nil, hs, hx, hrun]
    refine hK _ _ (h v w (by simpa using hown) ⟨rfl, rfl, rfl, Nat.le_refl _, fun _ _ _ => rfl⟩)
  · have hpos : 0 < m * size := Nat.mul_pos h0 hsz
    obtain ⟨b, off, rfl, _, _⟩ := hr (by omega)
    refine wpList_append_own _ hgd (.tmp s) (.tmp x) _ ho base E i0 _ size bytes hT hi0 hz0 hz2 hz3 hz1 hsz v n xs hs hown
      ⟨b, off, none⟩ m c news hx hm (rd_add hr) h1 (by simp only [maxLen]; omega) hn hbase ?_
    intro v' w' h1 h2 _
    exact h v' w' h1 h2
/-- append([]T{}, l...): a copy of a list, each element of so many cells. -/
theorem app_copyK {P : Program} {T E : TypeId} {z : Value} {size bytes : Nat} (hT : P.underlying T = some (.slice E)) (hinfo : (P.info? E).map (fun i => (i.zero, i.size, i.bytes)) = some (some z, size, bytes)) (hz1 : z.cells.size = size) (hsz : 0 < size)
    {ops : Array Oper} {rest : List Oper} {o : Oper} {a : Act} {w : World} {Q : Exit → Act → World → Prop} (hgd : o.guard = none) (s x : Nat)
    (ho : o.op = .call { callee := .builtin .append, args := #[.tmp s, .tmp x], argTypes := #[T, T] })
    (hs : a.eval (.tmp s) = .slice (some ⟨w.heap.size, 0, none⟩) 0 0) (B : Nat) (A : Option Addr) (m c : Nat) (news : List Value)
    (hx : a.eval (.tmp x) = .slice A m c) (hm : news.length = m * size) (hr : Rd (w.alloc (.cells #[] E)) B A news) (h1 : ∀ u ∈ news, u.oneCell' = true) (hb0 : 0 < bytes) (hn : m * bytes ≤ 140737488355328)
    (h : ∀ A' c' w', Hid (w'.ownsRow w.heap.size E size (.slice A' m c') m news ∧ Below w.heap.size w w') → wpList P ops Q rest (a.put o.dst (.slice A' m c')) w') :
    wpList P ops Q (o :: rest) a (w.alloc (.cells #[] E)) := by
  have hE : (w.alloc (.cells #[] E)).ownsRow w.heap.size E size (.slice (some ⟨w.heap.size, 0, none⟩) 0 0) 0 [] := World.ownsRow_lit (base := w.heap.size) (e := E) (size := size) w #[] 0 (Nat.le_refl _) (by simp [maxLen]) (by simp)
  refine app_many hT hinfo hz1 hsz hgd s x ho w.heap.size _ 0 [] hs hE B A m c news hx hm hr h1 (by simp) hb0 (by simpa using hn) ?_
  intro v' w' h1 h2
  simp only [Nat.zero_add, List.nil_append] at h1
  obtain ⟨A', c', rfl, _, _⟩ := own_rd h1
  exact h A' c' w' ⟨h1, below_own ((Below.refl _ _).alloc (Nat.le_refl _) _) hE (Nat.le_refl _) (by simp) h2⟩
theorem own_rdO {w : World} {base e size n c : Nat} {A : Option Addr} {xs : List Value} {O : Nat → Prop} (h : w.ownsRow base e size (.slice A n c) n xs) (hO : ∀ k, O k → k < base) : RdO w O A xs := fun hn => by
  obtain ⟨A', c', e1, hr, _⟩ := own_rd h
  simp only [Value.slice.injEq, true_and] at e1
  obtain ⟨rfl, _⟩ := e1
  obtain ⟨b, off, e2, hl, hc⟩ := hr hn
  refine ⟨b, off, e2, hl, fun ho => ?_, hc⟩
  have h1 := (h.lt b (by rw [e2]; rfl)).1
  have h2 := hO b ho
  omega
/-- Bools that a call reads. -/
def RdB (w : World) (A : Option Addr) (ks : List Bool) : Prop := 0 < ks.length → ∃ b off, A = some ⟨b, off, none⟩ ∧ b < w.heap.size ∧ ∀ j (h : j < ks.length), w.cell? ⟨b, off + j, none⟩ = some (.bool ks[j])
theorem RdB.below {w w' : World} {A : Option Addr} {ks : List Bool} (h : RdB w A ks) (hb : Below w.heap.size w w') : RdB w' A ks := fun hn =>
  let ⟨b, off, e, hl, hc⟩ := h hn
  ⟨b, off, e, Nat.lt_of_lt_of_le hl hb.size, fun j hj => (hb.cell (p := ⟨b, off + j, none⟩) hl).trans (hc j hj)⟩
def applyA (all : Bool) (ks : List Bool) (ps : List ((Nat × Sec) × Nat)) (l : List Sec) : List Sec := ps.foldl (fun l p => if (all || ks.getD p.2 false) = true then l.set p.1.1 p.1.2 else l) l
theorem applyA_len (all : Bool) (ks : List Bool) : ∀ (ps : List ((Nat × Sec) × Nat)) (l : List Sec), (applyA all ks ps l).length = l.length
  | [], _ => rfl
  | p :: ps, l => by
    have := applyA_len all ks ps (if (all || ks.getD p.2 false) = true then l.set p.1.1 p.1.2 else l)
    refine this.trans ?_
    split
    · rw [List.length_set]
    · rfl
theorem applyA_snoc (all : Bool) (ks : List Bool) (ps : List (Nat × Sec)) (k : Nat) (h : k < ps.length) (l : List Sec) :
    applyA all ks (ps.zipIdx.take (k + 1)) l = if (all || ks.getD k false) = true then (applyA all ks (ps.zipIdx.take k) l).set ps[k].1 ps[k].2 else applyA all ks (ps.zipIdx.take k) l := by
  rw [List.take_succ_eq_append_getElem (by simpa using h)]
  unfold applyA
  rw [List.foldl_append]
  simp only [List.foldl_cons, List.foldl_nil, List.getElem_zipIdx, Nat.zero_add]
theorem applyA_false (ks : List Bool) (ps : List ((Nat × Sec) × Nat)) (l : List Sec) : applyA false ks ps l = applyK ks ps l := by
  unfold applyA applyK
  simp only [Bool.false_or]
theorem applyA_true (ks : List Bool) (ps : List (Nat × Sec)) (l : List Sec) : applyA true ks ps.zipIdx l = applyF ps l := by
  unfold applyA applyF
  simp only [Bool.true_or, if_true]
  have gen : ∀ (ps : List (Nat × Sec)) (m : Nat) (l : List Sec), (ps.zipIdx m).foldl (fun l p => l.set p.1.1 p.1.2) l = ps.foldl (fun l p => l.set p.1 p.2) l := by
    intro ps
    induction ps with
    | nil => intro _ _; rfl
    | cons p ps ih => intro m l; rw [List.zipIdx_cons, List.foldl_cons, List.foldl_cons, ih]
  exact gen ps 0 l
def RSt.app (s : RSt) (all : Bool) (ks : List Bool) : RSt := { s with st := applyA all ks s.pend.zipIdx s.st, pend := [] }
/-- What stands while apply goes: the call's box, the row of sectors that it makes. -/
structure AInv (w wr : World) (d : RD) (v : Value) (l : List Sec) : Prop where
  box : Box w wr d zrd
  own : wr.ownsRow (w.heap.size + 2) 34 128 v d.s.st.length (flat l)
  len : l.length = d.s.st.length
section
variable {w wr wr' : World} {d : RD} {v : Value} {l : List Sec} {g c : Nat}
theorem AInv.fresh (h : AInv w wr d v l) (hb : Below wr.heap.size wr wr') : AInv w wr' d v l := ⟨h.box.fresh hb, own_far h.own hb, h.len⟩
theorem AInv.has (h : AInv w wr d (.slice (some ⟨g, 0, none⟩) d.s.st.length c) l) {a : Nat} (ha : (a : Int) < d.s.st.length) : wr.there g (a * 128) 128 := own_there h.own _ _ (by omega)
theorem AInv.set (h : AInv w wr d (.slice (some ⟨g, 0, none⟩) d.s.st.length c) l) {a : Nat} (ha : (a : Int) < d.s.st.length) (x : Sec) (hw : wr' = wr.setCells g (a * 128) x.cs) : AInv w wr' d (.slice (some ⟨g, 0, none⟩) d.s.st.length c) (l.set a x) := by
  subst hw
  have hg := (h.own.lt g rfl).1
  have hc : Chg wr (wr.setCells g (a * 128) x.cs) (· = g) := Chg.setCells (O := (· = g)) (.inl rfl) _ _ (Chg.refl _ _)
  obtain ⟨xs', h1, h2⟩ := own_setCells x.cs (a * 128) h.own (by rw [Sec.cs_len]; omega)
  have e : xs' = flat (l.set a x) := List.ext_getElem? fun k => by
    rw [h2 k]
    have := flat_set l a x (by rw [h.len]; omega) k
    rw [List.getElem?_toArray, List.getElem?_toArray] at this
    exact this.symm
  subst e
  exact ⟨⟨h.box.box.chg hc (by omega), h.box.res.chg hc (by omega), Below.setCells _ (by omega) _ _ h.box.below⟩, h1, by rw [List.length_set, h.len]⟩
end
set_option maxHeartbeats 2000000 in
theorem rapply_any {w : World} {O : Nat → Prop} (hO : ∀ k, O k → k < w.heap.size) {d : RD} (h : Lies w O d) (hp : d.s.pend.length ≤ 1000000) (all : Bool) (A' : Option Addr) (c' : Nat) (ks : List Bool) (hk : RdB w A' ks) :
    Calls Try.prog 52 #[.agg d.cs.toArray, .bool all, .slice A' ks.length c'] w fun e w' => ∃ d' : RD, d'.s = d.s.app all ks ∧ e = .returned (.agg d'.cs.toArray) ∧ Lies w' O d' ∧ Below w.heap.size w w' := by
  have hz : ∀ w, Sem.run Try.prog (zeroValue 47) w = .ok (.agg zrd.cs.toArray) w := zeroRd
  have hzw : ∀ w, Sem.run Try.prog (zeroValue 120) w = .ok (.agg (wcs (0, zsec)).toArray) w := zeroRW
  have HB := Lib.hid (Box.start w d)
  have HSZ := Lib.hid (show ((w.alloc (.cells d.cs.toArray 47)).alloc (.cells zrd.cs.toArray 47)).heap.size = w.heap.size + 2 by simp)
  obtain ⟨A, hA⟩ : ∃ A, A = d.pa := ⟨_, rfl⟩
  have HP : Hid (RdO w O A (flatW d.s.pend)) := by
    rw [hA]
    exact h.pd
  have HAA := Lib.hid hA
  have HST := Lib.hid h.st
  have HOK := Lib.hid h.ok
  have HNN := Lib.hid h.hn
  have HFL := Lib.hid h.fl
  have HK := Lib.hid hk
  have HO := Lib.hid hO
  have hpi : (d.s.pend.length : Int) ≤ 1000000 := by omega
  clear h hA hp hk hO
  go_enter Try.func52, Try.ntmps52
  go_upto_region 1 with (fail)
  generalize (w.alloc (.cells d.cs.toArray 47)).alloc (.cells zrd.cs.toArray 47) = w2 at *
  have c0 := (HB.out.fresh (wr' := w2.alloc (.cells #[] 34)) ((Below.refl _ _).alloc (Nat.le_refl _) _)).box.rdF.1
  go_wp2_with (first
    | (at_builtin; go_loud (refine app_copyK Try.underlying44 infoSec (by kernel_rfl) (by omega) rfl 10 12 rfl rfl (w2.alloc (.cells #[] 34)).heap.size d.sa d.s.st.length d.sc (flat d.s.st) rfl (flat_len _) ((HST.out.below HB.out.below).below ((Below.refl _ _).alloc (Nat.le_refl _) _)).rd (flat_one _) (by omega) (by have := HNN.out; omega) ?_); intro A7 c7 w7 h7
       have HN7 : Hid (AInv w w7 d (.slice A7 d.s.st.length c7) (applyA all ks (d.s.pend.zipIdx.take 0) d.s.st)) := ⟨HB.out.fresh h7.out.2, (by have := h7.out.1; rw [HSZ.out] at this; exact this), rfl⟩
       have c1 := HN7.out.box.box.rdF.2.1
       rw [← HAA.out] at c1
       clear h7 c0))
  clear c1 HB HSZ HAA HST
  go_loopw [17] (fun i' wr => ∃ (k : Nat), k ≤ d.s.pend.length ∧ i' = .int .i64 k ∧ AInv w wr d (.slice A7 d.s.st.length c7) (applyA all ks (d.s.pend.zipIdx.take k) d.s.st)) (fun i' _ => d.s.pend.length - (intOf i').toNat)
  case atStart => exact ⟨0, Nat.zero_le _, rfl, HN7.out⟩
  case round =>
    clear HN7
    obtain ⟨k, hk, rfl, hN⟩ := hrel
    have HN := Lib.hid hN
    clear hN
    by_cases hlt : k < d.s.pend.length
    · have hki : (k : Int) < d.s.pend.length := by omega
      have hai := HOK.out _ (List.getElem_mem hlt)
      obtain ⟨g, cap, heq, _, _, _⟩ := own_form HN.out.own (by omega)
      simp only [Value.slice.injEq, true_and] at heq
      obtain ⟨rfl, rfl⟩ := heq
      obtain ⟨b, off, rfl, _, hr⟩ := (RdO.wr (l := d.s.pend) (w := wr) (O := O) (HP.out.below HN.out.box.below)) k hlt
      have HS := Lib.hid (applyA_snoc all ks d.s.pend k hlt d.s.st)
      have HR := Lib.hid hr
      have HK1 := Lib.hid hlt
      generalize d.s.pend[k] = p at *
      obtain ⟨a, x⟩ := p
      have hai : (a : Int) < d.s.st.length := by have := hai; simp only at this; omega
      generalize applyA all ks (d.s.pend.zipIdx.take k) d.s.st = l at *
      clear hr hk hlt HP
      have HKK := HK
      clear HK
      have HK := HK1
      clear HK1
      cases all with
      | true =>
        rw [Bool.true_or, if_pos rfl] at HS
        go_wp2_with (first
          | (with_reducible refine ld_rw rfl _ rfl b (off + k * 129) (a, x) rfl HR.out ?_)
          | (with_reducible refine st_rw rfl _ _ rfl wr.heap.size 0 (a, x) rfl rfl (Blk.wHas (p := (0, zsec)) (Blk.new wr _ _)) ?_; intro w3 hw3
             have HW3 := Lib.hid (new_rw hw3.out).1
             have HN3 := Lib.hid (HN.out.fresh (new_rw hw3.out).2)
             have c0 := HW3.out.wNum)
          | (with_reducible refine ld_sec rfl _ rfl wr.heap.size 1 x rfl HW3.out.wSec ?_)
          | (with_reducible refine st_sec rfl _ _ rfl g (a * 128) x rfl rfl (HN3.out.has hai) ?_; intro w4 hw4))
        go_roundw
        case rel => exact ⟨k + 1, HK.out, by go_num, by rw [HS.out]; exact HN3.out.set hai x hw4.out⟩
        case measure => have := HK.out; simp [intOf]; omega
      | false =>
        by_cases hkl : k < ks.length
        · obtain ⟨b', off', rfl, hbl, hcl⟩ := HKK.out (by omega)
          have hcl := hcl k hkl
          have hgt : ks.getD k false = ks[k] := by simp [List.getD, hkl]
          rw [Bool.false_or, hgt] at HS
          have hkli : (k : Int) < ks.length := by omega
          generalize ks[k] = bk at *
          have HKC : Hid (∀ w3, Below w.heap.size w w3 → w3.cell? ⟨b', off' + k, none⟩ = some (.bool bk)) := fun w3 hb => (hb.cell (p := ⟨b', off' + k, none⟩) hbl).trans hcl
          clear hcl hbl hgt hkl HKK
          cases bk with
          | true =>
            rw [if_pos rfl] at HS
            go_wp2_with (first
              | (with_reducible refine ld_rw rfl _ rfl b (off + k * 129) (a, x) rfl HR.out ?_)
              | (with_reducible refine st_rw rfl _ _ rfl wr.heap.size 0 (a, x) rfl rfl (Blk.wHas (p := (0, zsec)) (Blk.new wr _ _)) ?_; intro w3 hw3
                 have HW3 := Lib.hid (new_rw hw3.out).1
                 have HN3 := Lib.hid (HN.out.fresh (new_rw hw3.out).2)
                 have c0 := HW3.out.wNum
                 have ck := HKC.out w3 (HN3.out.box.below))
              | (with_reducible refine ld_sec rfl _ rfl wr.heap.size 1 x rfl HW3.out.wSec ?_)
              | (with_reducible refine st_sec rfl _ _ rfl g (a * 128) x rfl rfl (HN3.out.has hai) ?_; intro w4 hw4))
            go_roundw
            case rel => exact ⟨k + 1, HK.out, by go_num, by rw [HS.out]; exact HN3.out.set hai x hw4.out⟩
            case measure => have := HK.out; simp [intOf]; omega
          | false =>
            rw [if_neg (by simp)] at HS
            go_wp2_with (first
              | (with_reducible refine ld_rw rfl _ rfl b (off + k * 129) (a, x) rfl HR.out ?_)
              | (with_reducible refine st_rw rfl _ _ rfl wr.heap.size 0 (a, x) rfl rfl (Blk.wHas (p := (0, zsec)) (Blk.new wr _ _)) ?_; intro w3 hw3
                 have HW3 := Lib.hid (new_rw hw3.out).1
                 have HN3 := Lib.hid (HN.out.fresh (new_rw hw3.out).2)
                 have c0 := HW3.out.wNum
                 have ck := HKC.out w3 (HN3.out.box.below)))
            go_roundw
            case rel => exact ⟨k + 1, HK.out, by go_num, by rw [HS.out]; exact HN3.out⟩
            case measure => have := HK.out; simp [intOf]; omega
        · have hgt : ks.getD k false = false := by simp [List.getD, List.getElem?_eq_none (show ks.length ≤ k by omega)]
          rw [Bool.false_or, hgt, if_neg (by simp)] at HS
          have hkli : ¬ (k : Int) < ks.length := by omega
          clear hgt hkl HKK
          go_wp2_with (first
            | (with_reducible refine ld_rw rfl _ rfl b (off + k * 129) (a, x) rfl HR.out ?_)
            | (with_reducible refine st_rw rfl _ _ rfl wr.heap.size 0 (a, x) rfl rfl (Blk.wHas (p := (0, zsec)) (Blk.new wr _ _)) ?_; intro w3 hw3
               have HW3 := Lib.hid (new_rw hw3.out).1
               have HN3 := Lib.hid (HN.out.fresh (new_rw hw3.out).2)
               have c0 := HW3.out.wNum))
          go_roundw
          case rel => exact ⟨k + 1, HK.out, by go_num, by rw [HS.out]; exact HN3.out⟩
          case measure => have := HK.out; simp [intOf]; omega
    · obtain rfl : k = d.s.pend.length := by omega
      have HE : Hid (applyA all ks (d.s.pend.zipIdx.take d.s.pend.length) d.s.st = (d.s.app all ks).st) := by
        show _ = applyA all ks d.s.pend.zipIdx d.s.st
        rw [List.take_of_length_le (by simp)]
      rw [HE.out] at HN
      clear hk hlt HP HE HK
      have H1 := Lib.hid (HN.out.box.put (d' := ⟨{ d.s with st := (d.s.app all ks).st }, A7, c7, d.pa, d.pc⟩) 0 (.slice A7 d.s.st.length c7) (by simp [RD.cs, HN.out.len]))
      have H2 := Lib.hid (H1.out.put (d' := ⟨d.s.app all ks, A7, c7, none, 0⟩) 1 (.slice none 0 0) rfl)
      obtain ⟨_, _, _, _, _, cf⟩ := HN.out.box.box.rdF
      have hO1 : ∀ w4, Hid (w4 = ((wr.setCell ⟨w.heap.size, 0, none⟩ (.slice A7 d.s.st.length c7)).setCell ⟨w.heap.size, 1, none⟩ (.slice none 0 0)).setCells (w.heap.size + 1) 0 (RD.cs ⟨d.s.app all ks, A7, c7, none, 0⟩) → Lies w4 O ⟨d.s.app all ks, A7, c7, none, 0⟩) := fun w4 hw => by
        have hc : Chg wr w4 (fun j => j = w.heap.size ∨ j = w.heap.size + 1) := by
          rw [hw]
          exact Chg.setCells (O := (fun j => j = w.heap.size ∨ j = w.heap.size + 1)) (.inl (.inr rfl)) _ _ (((Chg.refl wr (fun j => j = w.heap.size ∨ j = w.heap.size + 1)).setCell (p := ⟨w.heap.size, 0, none⟩) (.inl (.inl rfl)) _).setCell (p := ⟨w.heap.size, 1, none⟩) (.inl (.inl rfl)) _)
        have ho := own_chg HN.out.own hc fun g hg e => by
          have := (HN.out.own.lt g hg).1
          omega
        refine ⟨own_rdO ho fun k hk => by have := HO.out k hk; omega, RdO.nil, (fun _ h => by cases h), ?_, HFL.out⟩
        show (d.s.app all ks).st.length ≤ 1024
        rw [HN.out.len]
        exact HNN.out
      have HLL : Hid (∀ w4, w4 = ((wr.setCell ⟨w.heap.size, 0, none⟩ (.slice A7 d.s.st.length c7)).setCell ⟨w.heap.size, 1, none⟩ (.slice none 0 0)).setCells (w.heap.size + 1) 0 (RD.cs ⟨d.s.app all ks, A7, c7, none, 0⟩) → Lies w4 O ⟨d.s.app all ks, A7, c7, none, 0⟩) := fun w4 => (hO1 w4).out
      clear hO1 HN
      go_wp2_with (first
        | (with_reducible refine ld_rd rfl _ rfl w.heap.size 0 ⟨d.s.app all ks, A7, c7, none, 0⟩ rfl H2.out.box.rdIs ?_)
        | (with_reducible refine st_rd rfl _ _ rfl (w.heap.size + 1) 0 ⟨d.s.app all ks, A7, c7, none, 0⟩ rfl rfl H2.out.res.rdHas ?_; intro w4 hw4))
      obtain ⟨h3, h4⟩ := H2.out.out hw4.out
      exact bodyPost_ret (results_cell_row rfl _ _ _ _ _ _ _ rfl h3 Try.underlying47 rfl (sizeRd'' _)) rfl ⟨_, rfl, rfl, HLL.out _ hw4.out, h4⟩
def RSt.count (s : RSt) : RSt := { s with ops := wrap64 (s.ops + 1) }
theorem pow_like (s : RSt) : s.pow.st = s.st ∧ s.pow.pend = s.pend ∧ (I64 s.fuel → I64 s.pow.fuel) := by
  unfold RSt.pow
  split
  · exact ⟨rfl, rfl, id⟩
  · split
    · exact ⟨rfl, rfl, id⟩
    · split
      · refine ⟨rfl, rfl, fun h => ?_⟩
        obtain ⟨h1, h2⟩ := h
        exact ⟨by show _ ≤ s.fuel - 1; omega, by show s.fuel - 1 ≤ _; omega⟩
      · exact ⟨rfl, rfl, id⟩
def RSt.flush (s : RSt) : RSt × Int := if s.count.pow.dead = true then (s.count.pow, 42) else (s.count.pow.app true [], 0)
def RSt.put (s : RSt) (i : Int) (x : Sec) : RSt × Int :=
  if hasF s.st.length i = true then
    if s.count.pow.dead = true then (s.count.pow, 42) else ({ s.count.pow with pend := s.pend ++ [(i.toNat, x)] }, 0)
  else (s.count, 41)
def RSt.crash (s : RSt) (ks : List Bool) : RSt := { s.app false ks with fuel := -1, dead := false }
theorem Lies.pow {w : World} {O : Nat → Prop} {d : RD} (h : Lies w O d) : Lies w O { d with s := d.s.count.pow } := by
  obtain ⟨h1, h2, h3⟩ := pow_like d.s.count
  have e1 : d.s.count.pow.st = d.s.st := h1
  have e2 : d.s.count.pow.pend = d.s.pend := h2
  refine ⟨?_, ?_, ?_, ?_, h3 h.fl⟩
  · show RdO w O d.sa (flat d.s.count.pow.st)
    rw [e1]
    exact h.st
  · show RdO w O d.pa (flatW d.s.count.pow.pend)
    rw [e2]
    exact h.pd
  · show ∀ p ∈ d.s.count.pow.pend, p.1 < d.s.count.pow.st.length
    rw [e1, e2]
    exact h.ok
  · show d.s.count.pow.st.length ≤ 1024
    rw [e1]
    exact h.hn
theorem Lies.count {w : World} {O : Nat → Prop} {d : RD} (h : Lies w O d) : Lies w O { d with s := d.s.count } := ⟨h.st, h.pd, h.ok, h.hn, h.fl⟩
theorem rdB_nil (w : World) (A : Option Addr) : RdB w A [] := fun h => absurd h (by simp)
theorem pow_cs (d : RD) : ∃ d' : RD, d'.s = d.s.count.pow ∧ d' = { d with s := d.s.count.pow } := ⟨_, rfl, rfl⟩
set_option maxHeartbeats 1000000 in
theorem rflush_any {w : World} {O : Nat → Prop} (hO : ∀ k, O k → k < w.heap.size) {d : RD} (h : Lies w O d) (hp : d.s.pend.length ≤ 1000000) :
    Calls Try.prog 50 #[.agg d.cs.toArray] w fun e w' => ∃ d' : RD, d'.s = d.s.flush.1 ∧ e = .returned (.tuple #[.agg d'.cs.toArray, .int .i64 d.s.flush.2]) ∧ Lies w' O d' ∧ Below w.heap.size w w' := by
  have hz : ∀ w, Sem.run Try.prog (zeroValue 47) w = .ok (.agg zrd.cs.toArray) w := zeroRd
  have HB := Lib.hid (Box.start w d)
  have HL := Lib.hid h
  have HP := Lib.hid hp
  have HO := Lib.hid hO
  have HPW := Lib.hid (fun w => power_any { d with s := d.s.count } h.fl w)
  clear h hp hO
  cases hd : d.s.count.pow.dead with
  | true =>
    have HF : Hid (d.s.flush = (d.s.count.pow, 42)) := if_pos hd
    rw [HF.out]
    have HD : Hid (({ d with s := d.s.count } : RD).s.pow.dead = true) := hd
    rw [HD.out] at HPW
    clear hd HD
    obtain ⟨d2, hd2⟩ : ∃ d2 : RD, d2 = { d with s := d.s.count.pow } := ⟨_, rfl⟩
    have HL2 : Hid (Lies w O d2) := by rw [hd2]; exact HL.out.pow
    have HPW2 : Hid (∀ w, Calls Try.prog 69 #[.agg (RD.cs { d with s := d.s.count }).toArray] w fun e w' => e = .returned (.tuple #[.agg d2.cs.toArray, .bool (!true)]) ∧ Below w.heap.size w w') := by
      rw [hd2]
      exact HPW.out
    have HS2 : Hid (d2.s = d.s.count.pow) := by rw [hd2]; rfl
    clear HPW hd2
    go_enter Try.func50, Try.ntmps50
    go_upto_region 1 with (fail)
    generalize (w.alloc (.cells d.cs.toArray 47)).alloc (.cells zrd.cs.toArray 47) = w2 at *
    obtain ⟨_, _, c2, _, _, cf⟩ := HB.out.box.rdF
    have H1 := Lib.hid (HB.out.put (d' := { d with s := d.s.count }) 2 (.int .i64 (wrap64 (d.s.ops + 1))) rfl)
    go_wp2_with (first
      | (with_reducible refine ld_rd rfl _ rfl w.heap.size 0 { d with s := d.s.count } rfl H1.out.box.rdIs ?_)
      | (go_at_call 69; with_reducible refine Calls.mono (HPW2.out _) ?_; rintro e w3 ⟨rfl, hb3⟩
         have H3 := Lib.hid (H1.out.fresh hb3)
         clear hb3)
      | (with_reducible refine st_rd rfl _ _ rfl w.heap.size 0 d2 rfl rfl H3.out.box.rdHas ?_; intro w4 hw4
         have H4 := Lib.hid (H3.out.set hw4.out))
      | (with_reducible refine ld_rd rfl _ rfl w.heap.size 0 d2 rfl H4.out.box.rdIs ?_)
      | (with_reducible refine st_rd rfl _ _ rfl (w.heap.size + 1) 0 d2 rfl rfl H4.out.res.rdHas ?_; intro w5 hw5))
    obtain ⟨h3, h4⟩ := H4.out.out hw5.out
    exact bodyPost_ret (results_row_tmp rfl _ _ _ _ _ _ _ rfl h3 Try.underlying47 rfl (sizeRd'' _)) rfl ⟨d2, HS2.out, rfl, HL2.out.below h4, h4⟩
  | false =>
    have HF : Hid (d.s.flush = (d.s.count.pow.app true [], 0)) := if_neg (by rw [hd]; simp)
    rw [HF.out]
    have HD : Hid (({ d with s := d.s.count } : RD).s.pow.dead = false) := hd
    rw [HD.out] at HPW
    clear hd HD
    obtain ⟨d2, hd2⟩ : ∃ d2 : RD, d2 = { d with s := d.s.count.pow } := ⟨_, rfl⟩
    have HL2 : Hid (Lies w O d2) := by rw [hd2]; exact HL.out.pow
    have HPW2 : Hid (∀ w, Calls Try.prog 69 #[.agg (RD.cs { d with s := d.s.count }).toArray] w fun e w' => e = .returned (.tuple #[.agg d2.cs.toArray, .bool (!false)]) ∧ Below w.heap.size w w') := by
      rw [hd2]
      exact HPW.out
    have HS2 : Hid (d2.s = d.s.count.pow) := by rw [hd2]; rfl
    have HP2 : Hid (d2.s.pend.length ≤ 1000000) := by
      rw [HS2.out]
      show d.s.count.pow.pend.length ≤ 1000000
      rw [(pow_like d.s.count).2.1]
      exact HP.out
    clear HPW hd2
    go_enter Try.func50, Try.ntmps50
    go_upto_region 1 with (fail)
    generalize (w.alloc (.cells d.cs.toArray 47)).alloc (.cells zrd.cs.toArray 47) = w2 at *
    obtain ⟨_, _, c2, _, _, cf⟩ := HB.out.box.rdF
    have H1 := Lib.hid (HB.out.put (d' := { d with s := d.s.count }) 2 (.int .i64 (wrap64 (d.s.ops + 1))) rfl)
    go_wp2_with (first
      | (with_reducible refine ld_rd rfl _ rfl w.heap.size 0 { d with s := d.s.count } rfl H1.out.box.rdIs ?_)
      | (go_at_call 69; with_reducible refine Calls.mono (HPW2.out _) ?_; rintro e w3 ⟨rfl, hb3⟩
         have H3 := Lib.hid (H1.out.fresh hb3)
         clear hb3)
      | (with_reducible refine st_rd rfl _ _ rfl w.heap.size 0 d2 rfl rfl H3.out.box.rdHas ?_; intro w4 hw4
         have H4 := Lib.hid (H3.out.set hw4.out))
      | (with_reducible refine ld_rd rfl _ rfl w.heap.size 0 d2 rfl H4.out.box.rdIs ?_)
      | (go_at_call 52; refine Calls.mono (rapply_any (mine_lt HO.out H4.out.below) (HL2.out.mine H4.out.below) HP2.out true none 0 [] (rdB_nil _ _)) ?_; rintro e w5 ⟨d3, hs3, rfl, hL3, hb3⟩
         have H5 := Lib.hid (H4.out.fresh hb3)
         have HS3 := Lib.hid hs3
         have HL3 := Lib.hid hL3
         have HZ4 := Lib.hid (show w.heap.size + 1 < w4.heap.size from H4.out.res.lt)
         clear hs3 hL3 hb3)
      | (with_reducible refine st_rd rfl _ _ rfl (w.heap.size + 1) 0 d3 rfl rfl H5.out.res.rdHas ?_; intro w6 hw6))
    obtain ⟨h3, h4⟩ := H5.out.out hw6.out
    have hl6 : Lies w6 O d3 := by
      have hc : Chg w5 w6 (· = w.heap.size + 1) := by rw [hw6.out]; exact Chg.setCells (O := (· = w.heap.size + 1)) (.inl rfl) _ _ (Chg.refl _ _)
      have hz4 := HZ4.out
      exact (HL3.out.chg hc fun k hk => .inr (by omega)).weak fun k _ ho => .inl ho
    exact bodyPost_ret (results_row_tmp rfl _ _ _ _ _ _ _ rfl h3 Try.underlying47 rfl (sizeRd'' _)) rfl ⟨d3, by rw [HS3.out, HS2.out], rfl, hl6, h4⟩
set_option maxHeartbeats 1000000 in
theorem rcrash_any {w : World} {O : Nat → Prop} (hO : ∀ k, O k → k < w.heap.size) {d : RD} (h : Lies w O d) (hp : d.s.pend.length ≤ 1000000) (A' : Option Addr) (c' : Nat) (ks : List Bool) (hk : RdB w A' ks) :
    Calls Try.prog 24 #[.agg d.cs.toArray, .slice A' ks.length c'] w fun e w' => ∃ d' : RD, d'.s = d.s.crash ks ∧ e = .returned (.agg d'.cs.toArray) ∧ Lies w' O d' ∧ Below w.heap.size w w' := by
  have hz : ∀ w, Sem.run Try.prog (zeroValue 47) w = .ok (.agg zrd.cs.toArray) w := zeroRd
  have HB := Lib.hid (Box.start w d)
  have HL := Lib.hid h
  have HP := Lib.hid hp
  have HO := Lib.hid hO
  have HK := Lib.hid hk
  clear h hp hO hk
  go_enter Try.func24, Try.ntmps24
  go_upto_region 1 with (fail)
  generalize (w.alloc (.cells d.cs.toArray 47)).alloc (.cells zrd.cs.toArray 47) = w2 at *
  go_upto_region 2 with (first
    | (with_reducible refine ld_rd rfl _ rfl w.heap.size 0 d rfl HB.out.box.rdIs ?_)
    | (go_at_call 52; refine Calls.mono (rapply_any (mine_lt HO.out HB.out.below) (HL.out.mine HB.out.below) HP.out false A' c' ks (HK.out.below HB.out.below)) ?_; rintro e w3 ⟨d3, hs3, rfl, hL3, hb3⟩
       have H3 := Lib.hid (HB.out.fresh hb3)
       have HS3 := Lib.hid hs3
       have HL3 := Lib.hid hL3
       have HZ2 := Lib.hid (show w.heap.size + 1 < w2.heap.size from HB.out.res.lt)
       clear hs3 hL3 hb3)
    | (with_reducible refine st_rd rfl _ _ rfl w.heap.size 0 d3 rfl rfl H3.out.box.rdHas ?_; intro w4 hw4
       have H4 := Lib.hid (H3.out.set hw4.out)))
  obtain ⟨_, _, _, _, _, cf⟩ := H4.out.box.rdF
  have H5 := Lib.hid (H4.out.put (d' := { d3 with s := { d3.s with fuel := -1 } }) 3 (.int .i64 (-1)) rfl)
  have H6 := Lib.hid (H5.out.put (d' := { d3 with s := { d3.s with fuel := -1, dead := false } }) 4 (.bool false) rfl)
  go_wp2_with (first
    | (with_reducible refine ld_rd rfl _ rfl w.heap.size 0 { d3 with s := { d3.s with fuel := -1, dead := false } } rfl H6.out.box.rdIs ?_)
    | (with_reducible refine st_rd rfl _ _ rfl (w.heap.size + 1) 0 { d3 with s := { d3.s with fuel := -1, dead := false } } rfl rfl H6.out.res.rdHas ?_; intro w7 hw7))
  obtain ⟨h3, h4⟩ := H6.out.out hw7.out
  have hl7 : Lies w7 O { d3 with s := { d3.s with fuel := -1, dead := false } } := by
    have hc : Chg w3 w7 (fun j => j = w.heap.size ∨ j = w.heap.size + 1) := by
      rw [hw7.out, hw4.out]
      exact Chg.setCells (O := (fun j => j = w.heap.size ∨ j = w.heap.size + 1)) (.inl (.inr rfl)) _ _ (((Chg.setCells (O := (fun j => j = w.heap.size ∨ j = w.heap.size + 1)) (.inl (.inl rfl)) _ _ (Chg.refl _ _)).setCell (p := ⟨w.heap.size, 3, none⟩) (.inl (.inl rfl)) _).setCell (p := ⟨w.heap.size, 4, none⟩) (.inl (.inl rfl)) _)
    have hz2 := HZ2.out
    have h := (HL3.out.chg hc fun k hk => .inr (by omega)).weak (O' := O) fun k _ ho => .inl ho
    exact ⟨h.st, h.pd, h.ok, h.hn, by show I64 (-1); unfold I64; omega⟩
  exact bodyPost_ret (results_cell_row rfl _ _ _ _ _ _ _ rfl h3 Try.underlying47 rfl (sizeRd'' _)) rfl ⟨_, by show RSt.mk _ _ _ _ _ = _; rw [HS3.out]; rfl, rfl, hl7, h4⟩
/-- A call's boxes (a device, something else) and its result's block, while the call goes. -/
structure Box3 (w wr : World) (d : RD) (t : TypeId) (cs : Array Value) (r : RD) : Prop where
  box : Blk wr w.heap.size 47 d.cs.toArray
  mid : Blk wr (w.heap.size + 1) t cs
  res : Blk wr (w.heap.size + 2) 47 r.cs.toArray
  below : Below w.heap.size w wr
section
variable {w wr wr' : World} {d d' r : RD} {t : TypeId} {cs : Array Value}
theorem Box3.start (w : World) (d : RD) (t : TypeId) (cs : Array Value) : Box3 w (((w.alloc (.cells d.cs.toArray 47)).alloc (.cells cs t)).alloc (.cells zrd.cs.toArray 47)) d t cs zrd := by
  have e1 : (w.alloc (.cells d.cs.toArray 47)).heap.size = w.heap.size + 1 := by simp
  have e2 : ((w.alloc (.cells d.cs.toArray 47)).alloc (.cells cs t)).heap.size = w.heap.size + 2 := by simp
  have h1 := Blk.new (w.alloc (.cells d.cs.toArray 47)) t cs
  have h2 := Blk.new ((w.alloc (.cells d.cs.toArray 47)).alloc (.cells cs t)) 47 zrd.cs.toArray
  rw [e1] at h1
  rw [e2] at h2
  have hb1 : Below (w.alloc (.cells d.cs.toArray 47)).heap.size (w.alloc (.cells d.cs.toArray 47)) ((w.alloc (.cells d.cs.toArray 47)).alloc (.cells cs t)) := (Below.refl _ _).alloc (Nat.le_refl _) _
  have hb2 : Below ((w.alloc (.cells d.cs.toArray 47)).alloc (.cells cs t)).heap.size ((w.alloc (.cells d.cs.toArray 47)).alloc (.cells cs t)) (((w.alloc (.cells d.cs.toArray 47)).alloc (.cells cs t)).alloc (.cells zrd.cs.toArray 47)) := (Below.refl _ _).alloc (Nat.le_refl _) _
  have h0 := (rd_box w d).below hb1 (by simp)
  exact ⟨h0.below hb2 (by simp; omega), h1.below hb2 (by simp), h2, (((Below.refl _ _).alloc (Nat.le_refl _) _).alloc (by simp) _).alloc (by simp; omega) _⟩
theorem Box3.fresh (h : Box3 w wr d t cs r) (hb : Below wr.heap.size wr wr') : Box3 w wr' d t cs r :=
  ⟨h.box.below hb h.box.lt, h.mid.below hb h.mid.lt, h.res.below hb h.res.lt, h.below.trans (hb.mono h.below.size)⟩
theorem Box3.belowB {B : Nat} (h : Box3 w wr d t cs r) (hb : Below B wr wr') (hB : w.heap.size + 2 < B) : Box3 w wr' d t cs r :=
  ⟨h.box.below hb (by omega), h.mid.below hb (by omega), h.res.below hb hB, h.below.trans (hb.mono (by omega))⟩
theorem Box3.put (h : Box3 w wr d t cs r) (i : Nat) (v : Value) (hd : d.cs.toArray.setIfInBounds i v = d'.cs.toArray) : Box3 w (wr.setCell ⟨w.heap.size, i, none⟩ v) d' t cs r :=
  ⟨by rw [← hd]; exact h.box.set_ i v, h.mid.far (p := ⟨w.heap.size, i, none⟩) (by simp) v, h.res.far (p := ⟨w.heap.size, i, none⟩) (by simp) v, h.below.setCell (by simp) v⟩
theorem Box3.set (h : Box3 w wr d t cs r) (hw : wr' = wr.setCells w.heap.size 0 d'.cs) : Box3 w wr' d' t cs r := by
  subst hw
  have hc : Chg wr (wr.setCells w.heap.size 0 d'.cs) (· = w.heap.size) := Chg.setCells (O := (· = w.heap.size)) (.inl rfl) _ _ (Chg.refl _ _)
  exact ⟨h.box.rdAll d', h.mid.chg hc (by omega), h.res.chg hc (by omega), Below.setCells _ (Nat.le_refl _) _ _ h.below⟩
theorem Box3.out (h : Box3 w wr d t cs r) (hw : wr' = wr.setCells (w.heap.size + 2) 0 d'.cs) : Blk wr' (w.heap.size + 2) 47 d'.cs.toArray ∧ Below w.heap.size w wr' := by
  subst hw
  exact ⟨h.res.rdAll d', Below.setCells _ (by omega) _ _ h.below⟩
end
theorem build_rw (a : Nat) (s : Sec) (w : World) : (Instr.build 120 #[(0, .int .i64 (a : Int)), (1, .agg s.cs.toArray)]).run Try.prog w = .ok (.agg (wcs (a, s)).toArray) w := by
  refine run_build w _ _ _ ?_
  obtain ⟨i, hi, hz, hs, _⟩ := info_parts infoRW
  have hp : (Try.prog.fieldsOf 120).toList.mapM (fun f => (Try.prog.info? f.type).map fun i => (f.offset, i.size)) = some [(0, 1), (1, 128)] := by kernel_rfl
  unfold Program.built
  simp only [hi, Try.underlying120, hz]
  unfold Program.fieldsOf at hp
  simp only [Try.underlying120] at hp
  rw [hp]
  exact fill_two a s
theorem ex_buildRW {o : Oper} {a : Act} {w : World} (x y : Operand) (ho : o.op = .build 120 #[(0, x), (1, y)]) (k : Nat) (s : Sec) (hx : a.eval x = .int .i64 (k : Int)) (hy : a.eval y = .agg s.cs.toArray) :
    (execOp a.eval o).run Try.prog w = .ok (.value (.agg (wcs (k, s)).toArray)) w := by
  unfold execOp
  have hb := build_rw k s w
  rw [← hx, ← hy] at hb
  simp only [ho, List.map_toArray, List.map_cons, List.map_nil, hb, Sem.run_bind, Sem.run_pure, Result.andThen_ok]
theorem ex_bslRW {o : Oper} {a : Act} {w : World} (y : Operand) (ho : o.op = .buildSlice 45 1 #[(0, y)]) (p : Nat × Sec) (hy : a.eval y = .agg (wcs p).toArray) :
    (execOp a.eval o).run Try.prog w = .ok (.value (.slice (some ⟨w.heap.size, 0, none⟩) 1 1)) (w.alloc (.cells (wcs p).toArray 120)) := by
  have hb := run_bsl1 Try.underlying45 infoRW (by omega) (by omega) (wcs p) (wcs_len p) (.agg (wcs p).toArray) rfl w
  unfold execOp
  simp only [ho, List.map_toArray, List.map_cons, List.map_nil, hy, hb, Sem.run_bind, Sem.run_pure, Result.andThen_ok]
theorem wcs0_size : (Value.agg (wcs (0, zsec)).toArray).cells.size = 129 := by
  show (wcs (0, zsec)).toArray.size = 129
  rw [List.size_toArray, wcs_len]
theorem flatW_one (l : List (Nat × Sec)) : ∀ u ∈ flatW l, u.oneCell' = true := by
  intro u hu
  simp only [flatW, List.mem_flatMap] at hu
  obtain ⟨s, _, hs⟩ := hu
  exact wcs_one s u hs
/-- append of one write to a row of the call's own. -/
theorem app_rw {ops : Array Oper} {rest : List Oper} {o : Oper} {a : Act} {w : World} {Q : Exit → Act → World → Prop} (hgd : o.guard = none) (s x : Nat)
    (ho : o.op = .call { callee := .builtin .append, args := #[.tmp s, .tmp x], argTypes := #[45, 45] })
    (base : Nat) (A : Option Addr) (c : Nat) (l : List (Nat × Sec)) (hs : a.eval (.tmp s) = .slice A l.length c) (hown : w.ownsRow base 120 129 (.slice A l.length c) l.length (flatW l)) (p : Nat × Sec)
    (hx : a.eval (.tmp x) = .slice (some ⟨w.heap.size, 0, none⟩) 1 1) (hbase : base ≤ w.heap.size) (hn : l.length ≤ 1000000)
    (h : ∀ A' c' w', Hid (w'.ownsRow base 120 129 (.slice A' (l.length + 1) c') (l.length + 1) (flatW (l ++ [p])) ∧ Below base w w') → wpList Try.prog ops Q rest (a.put o.dst (.slice A' (l.length + 1) c')) w') :
    wpList Try.prog ops Q (o :: rest) a (w.alloc (.cells (wcs p).toArray 120)) := by
  refine app_many Try.underlying45 infoRW wcs0_size (by omega) hgd s x ho base _ l.length (flatW l) hs (World.ownsRow.alloc hown _) (w.alloc (.cells (wcs p).toArray 120)).heap.size (some ⟨w.heap.size, 0, none⟩) 1 1 (wcs p) hx (by rw [wcs_len]) ?_ (wcs_one p) (by simp; omega) (by omega) (by omega) ?_
  · have := rd_new w (wcs p).toArray 120
    exact this
  · intro v' w' h1 h2
    rw [← flatW_snoc] at h1
    obtain ⟨A', c', rfl, _, _⟩ := own_rd h1
    have hb : Below base w (w.alloc (.cells (wcs p).toArray 120)) := (Below.refl _ _).alloc hbase _
    exact h A' c' w' ⟨h1, below_own hb (World.ownsRow.alloc hown _) (Nat.le_refl _) (by simp; omega) h2⟩
set_option maxHeartbeats 1000000 in
theorem rput_none {w : World} {O : Nat → Prop} {d : RD} (h : Lies w O d) (i : Int) (x : Sec) (hf : hasF d.s.st.length i = false) :
    Calls Try.prog 51 #[.agg d.cs.toArray, .int .i64 i, .agg x.cs.toArray] w fun e w' => ∃ d' : RD, d'.s = d.s.count ∧ e = .returned (.tuple #[.agg d'.cs.toArray, .int .i64 41]) ∧ Lies w' O d' ∧ Below w.heap.size w w' := by
  have hz : ∀ w, Sem.run Try.prog (zeroValue 47) w = .ok (.agg zrd.cs.toArray) w := zeroRd
  have HB := Lib.hid (Box3.start w d 34 x.cs.toArray)
  have HL := Lib.hid h
  have HT : Hid (∀ w, Calls Try.prog 57 #[.agg (RD.cs { d with s := d.s.count }).toArray, .int .i64 i] w fun e w' => e = .returned (.bool false) ∧ Below w.heap.size w w') := fun w => by
    have h := rthere_any { d with s := d.s.count } i w
    rw [show hasF (RSt.st (RD.s { d with s := d.s.count })).length i = false from hf] at h
    exact h
  clear h hf
  go_enter Try.func51, Try.ntmps51
  go_upto_region 1 with (fail)
  generalize ((w.alloc (.cells d.cs.toArray 47)).alloc (.cells x.cs.toArray 34)).alloc (.cells zrd.cs.toArray 47) = w2 at *
  obtain ⟨_, _, c2, _, _, cf⟩ := HB.out.box.rdF
  have H1 := Lib.hid (HB.out.put (d' := { d with s := d.s.count }) 2 (.int .i64 (wrap64 (d.s.ops + 1))) rfl)
  go_wp2_with (first
    | (with_reducible refine ld_rd rfl _ rfl w.heap.size 0 { d with s := d.s.count } rfl H1.out.box.rdIs ?_)
    | (go_at_call 57; with_reducible refine Calls.mono (HT.out _) ?_; rintro e w3 ⟨rfl, hb3⟩
       have H3 := Lib.hid (H1.out.fresh hb3)
       clear hb3)
    | (with_reducible refine ld_rd rfl _ rfl w.heap.size 0 { d with s := d.s.count } rfl H3.out.box.rdIs ?_)
    | (with_reducible refine st_rd rfl _ _ rfl (w.heap.size + 2) 0 { d with s := d.s.count } rfl rfl H3.out.res.rdHas ?_; intro w5 hw5))
  obtain ⟨h3, h4⟩ := H3.out.out hw5.out
  exact bodyPost_ret (results_row_tmp rfl _ _ _ _ _ _ _ rfl h3 Try.underlying47 rfl (sizeRd'' _)) rfl ⟨_, rfl, rfl, HL.out.count.below h4, h4⟩
set_option maxHeartbeats 1000000 in
theorem rput_dead {w : World} {O : Nat → Prop} {d : RD} (h : Lies w O d) (i : Int) (x : Sec) (hf : hasF d.s.st.length i = true) (hd : d.s.count.pow.dead = true) :
    Calls Try.prog 51 #[.agg d.cs.toArray, .int .i64 i, .agg x.cs.toArray] w fun e w' => ∃ d' : RD, d'.s = d.s.count.pow ∧ e = .returned (.tuple #[.agg d'.cs.toArray, .int .i64 42]) ∧ Lies w' O d' ∧ Below w.heap.size w w' := by
  have hz : ∀ w, Sem.run Try.prog (zeroValue 47) w = .ok (.agg zrd.cs.toArray) w := zeroRd
  have HB := Lib.hid (Box3.start w d 34 x.cs.toArray)
  have HL := Lib.hid h
  have HT : Hid (∀ w, Calls Try.prog 57 #[.agg (RD.cs { d with s := d.s.count }).toArray, .int .i64 i] w fun e w' => e = .returned (.bool true) ∧ Below w.heap.size w w') := fun w => by
    have h := rthere_any { d with s := d.s.count } i w
    rw [show hasF (RSt.st (RD.s { d with s := d.s.count })).length i = true from hf] at h
    exact h
  have HPW := Lib.hid (fun w => power_any { d with s := d.s.count } h.fl w)
  have HD : Hid (({ d with s := d.s.count } : RD).s.pow.dead = true) := hd
  rw [HD.out] at HPW
  obtain ⟨d2, hd2⟩ : ∃ d2 : RD, d2 = { d with s := d.s.count.pow } := ⟨_, rfl⟩
  have HL2 : Hid (Lies w O d2) := by rw [hd2]; exact HL.out.pow
  have HPW2 : Hid (∀ w, Calls Try.prog 69 #[.agg (RD.cs { d with s := d.s.count }).toArray] w fun e w' => e = .returned (.tuple #[.agg d2.cs.toArray, .bool (!true)]) ∧ Below w.heap.size w w') := by
    rw [hd2]
    exact HPW.out
  have HS2 : Hid (d2.s = d.s.count.pow) := by rw [hd2]; rfl
  clear h hf hd HD HPW hd2
  go_enter Try.func51, Try.ntmps51
  go_upto_region 1 with (fail)
  generalize ((w.alloc (.cells d.cs.toArray 47)).alloc (.cells x.cs.toArray 34)).alloc (.cells zrd.cs.toArray 47) = w2 at *
  obtain ⟨_, _, c2, _, _, cf⟩ := HB.out.box.rdF
  have H1 := Lib.hid (HB.out.put (d' := { d with s := d.s.count }) 2 (.int .i64 (wrap64 (d.s.ops + 1))) rfl)
  go_wp2_with (first
    | (with_reducible refine ld_rd rfl _ rfl w.heap.size 0 { d with s := d.s.count } rfl H1.out.box.rdIs ?_)
    | (go_at_call 57; with_reducible refine Calls.mono (HT.out _) ?_; rintro e w3 ⟨rfl, hb3⟩
       have H3 := Lib.hid (H1.out.fresh hb3)
       clear hb3)
    | (with_reducible refine ld_rd rfl _ rfl w.heap.size 0 { d with s := d.s.count } rfl H3.out.box.rdIs ?_)
    | (go_at_call 69; with_reducible refine Calls.mono (HPW2.out _) ?_; rintro e w4 ⟨rfl, hb4⟩
       have H4 := Lib.hid (H3.out.fresh hb4)
       clear hb4)
    | (with_reducible refine st_rd rfl _ _ rfl w.heap.size 0 d2 rfl rfl H4.out.box.rdHas ?_; intro w5 hw5
       have H5 := Lib.hid (H4.out.set hw5.out))
    | (with_reducible refine ld_rd rfl _ rfl w.heap.size 0 d2 rfl H5.out.box.rdIs ?_)
    | (with_reducible refine st_rd rfl _ _ rfl (w.heap.size + 2) 0 d2 rfl rfl H5.out.res.rdHas ?_; intro w6 hw6))
  obtain ⟨h3, h4⟩ := H5.out.out hw6.out
  exact bodyPost_ret (results_row_tmp rfl _ _ _ _ _ _ _ rfl h3 Try.underlying47 rfl (sizeRd'' _)) rfl ⟨d2, HS2.out, rfl, HL2.out.below h4, h4⟩
set_option maxHeartbeats 2000000 in
theorem rput_ok {w : World} {O : Nat → Prop} (hO : ∀ k, O k → k < w.heap.size) {d : RD} (h : Lies w O d) (hp : d.s.pend.length ≤ 1000000) (k : Nat) (x : Sec) (hk : k < d.s.st.length) (hd : d.s.count.pow.dead = false) :
    Calls Try.prog 51 #[.agg d.cs.toArray, .int .i64 (k : Int), .agg x.cs.toArray] w fun e w' => ∃ d' : RD, d'.s = { d.s.count.pow with pend := d.s.pend ++ [(k, x)] } ∧ e = .returned (.tuple #[.agg d'.cs.toArray, .int .i64 0]) ∧ Lies w' O d' ∧ Below w.heap.size w w' := by
  have hz : ∀ w, Sem.run Try.prog (zeroValue 47) w = .ok (.agg zrd.cs.toArray) w := zeroRd
  have HB := Lib.hid (Box3.start w d 34 x.cs.toArray)
  have HL := Lib.hid h
  have hf : hasF d.s.st.length (k : Int) = true := by unfold hasF; rw [decide_eq_true_iff]; omega
  have HT : Hid (∀ w, Calls Try.prog 57 #[.agg (RD.cs { d with s := d.s.count }).toArray, .int .i64 (k : Int)] w fun e w' => e = .returned (.bool true) ∧ Below w.heap.size w w') := fun w => by
    have h := rthere_any { d with s := d.s.count } (k : Int) w
    rw [show hasF (RSt.st (RD.s { d with s := d.s.count })).length (k : Int) = true from hf] at h
    exact h
  have HPW := Lib.hid (fun w => power_any { d with s := d.s.count } h.fl w)
  have HD : Hid (({ d with s := d.s.count } : RD).s.pow.dead = false) := hd
  rw [HD.out] at HPW
  have HL0 := Lib.hid HL.out.pow
  obtain ⟨d2, hd2⟩ : ∃ d2 : RD, d2 = { d with s := d.s.count.pow } := ⟨_, rfl⟩
  rw [← hd2] at HL0
  have HPW2 : Hid (∀ w, Calls Try.prog 69 #[.agg (RD.cs { d with s := d.s.count }).toArray] w fun e w' => e = .returned (.tuple #[.agg d2.cs.toArray, .bool (!false)]) ∧ Below w.heap.size w w') := by
    rw [hd2]
    exact HPW.out
  obtain ⟨hpw1, hpw2, _⟩ := pow_like d.s.count
  have HQ : Hid (d2.s = d.s.count.pow ∧ d2.s.pend = d.s.pend ∧ d2.s.st = d.s.st) := by rw [hd2]; exact ⟨rfl, hpw2, hpw1⟩
  have HP := Lib.hid (show d2.s.pend.length ≤ 1000000 by rw [HQ.out.2.1]; exact hp)
  have HK := Lib.hid (show k < d2.s.st.length by rw [HQ.out.2.2]; exact hk)
  have HO := Lib.hid hO
  clear h hf hd HD HPW hd2 hpw1 hpw2 hp hk hO
  obtain ⟨l, hl⟩ : ∃ l, l = d2.s.pend := ⟨_, rfl⟩
  have HLL := Lib.hid hl
  clear hl
  go_enter Try.func51, Try.ntmps51
  go_upto_region 1 with (fail)
  generalize ((w.alloc (.cells d.cs.toArray 47)).alloc (.cells x.cs.toArray 34)).alloc (.cells zrd.cs.toArray 47) = w2 at *
  obtain ⟨_, _, c2, _, _, cf⟩ := HB.out.box.rdF
  have H1 := Lib.hid (HB.out.put (d' := { d with s := d.s.count }) 2 (.int .i64 (wrap64 (d.s.ops + 1))) rfl)
  go_wp2_with (first
    | (with_reducible refine ld_rd rfl _ rfl w.heap.size 0 { d with s := d.s.count } rfl H1.out.box.rdIs ?_)
    | (go_at_call 57; with_reducible refine Calls.mono (HT.out _) ?_; rintro e w3 ⟨rfl, hb3⟩
       have H3 := Lib.hid (H1.out.fresh hb3)
       clear hb3)
    | (with_reducible refine ld_rd rfl _ rfl w.heap.size 0 { d with s := d.s.count } rfl H3.out.box.rdIs ?_)
    | (go_at_call 69; with_reducible refine Calls.mono (HPW2.out _) ?_; rintro e w4 ⟨rfl, hb4⟩
       have H4 := Lib.hid (H3.out.fresh hb4)
       clear hb4)
    | (with_reducible refine st_rd rfl _ _ rfl w.heap.size 0 d2 rfl rfl H4.out.box.rdHas ?_; intro w5 hw5
       have H5 := Lib.hid (H4.out.set hw5.out)
       have c1 := (H5.out.fresh (wr' := w5.alloc (.cells #[] 120)) ((Below.refl _ _).alloc (Nat.le_refl _) _)).box.rdF.2.1
       rw [← HLL.out] at c1)
    | (at_builtin; refine app_copyK Try.underlying45 infoRW wcs0_size (by omega) rfl 27 29 rfl rfl (w5.alloc (.cells #[] 120)).heap.size d2.pa l.length d2.pc (flatW l) rfl (flatW_len _) ((by rw [HLL.out]; exact ((HL0.out.pd.below H5.out.below).below ((Below.refl _ _).alloc (Nat.le_refl _) _)).rd)) (flatW_one _) (by omega) (by rw [HLL.out]; have := HP.out; omega) ?_; intro A7 c7 w7 h7
       have H7 := Lib.hid (H5.out.fresh h7.out.2)
       have HW7 := Lib.hid h7.out.1
       have HS5 := Lib.hid (show w.heap.size + 2 < w5.heap.size from H5.out.res.lt)
       have HS7 := Lib.hid h7.out.2.size
       clear h7 c1)
    | (with_reducible refine ld_sec rfl _ rfl (w.heap.size + 1) 0 x rfl H7.out.mid.secIs ?_)
    | (have h7 := HW7; clear h7; refine wpList_val (by rfl) (.agg (wcs (k, x)).toArray) (ex_buildRW (.tmp 32) (.tmp 33) rfl k x rfl rfl) ?_)
    | (have h7 := HW7; clear h7; refine wpList_val (by rfl) (.slice (some ⟨w7.heap.size, 0, none⟩) 1 1) (ex_bslRW (.tmp 34) rfl (k, x) rfl) ?_)
    | (at_builtin; refine app_rw rfl 31 35 rfl w5.heap.size A7 c7 l rfl HW7.out (k, x) rfl HS7.out (by rw [HLL.out]; exact HP.out) ?_; intro A8 c8 w8 h8
       have H8 := Lib.hid (H7.out.belowB h8.out.2 HS5.out)
       have H9 := Lib.hid (H8.out.put (d' := ⟨{ d2.s with pend := l ++ [(k, x)] }, d2.sa, d2.sc, A8, c8⟩) 1 (.slice A8 (l.length + 1) c8) (by simp [RD.cs]))
       have cc8 := H8.out.box.rdF.2.1
       have cf8 := H8.out.box.rdF.2.2.2.2.2)
    | (with_reducible refine ld_rd rfl _ rfl w.heap.size 0 ⟨{ d2.s with pend := l ++ [(k, x)] }, d2.sa, d2.sc, A8, c8⟩ rfl H9.out.box.rdIs ?_)
    | (with_reducible refine st_rd rfl _ _ rfl (w.heap.size + 2) 0 ⟨{ d2.s with pend := l ++ [(k, x)] }, d2.sa, d2.sc, A8, c8⟩ rfl rfl H9.out.res.rdHas ?_; intro w10 hw10))
  obtain ⟨h3, h4⟩ := H9.out.out hw10.out
  have hl10 : Lies w10 O ⟨{ d2.s with pend := l ++ [(k, x)] }, d2.sa, d2.sc, A8, c8⟩ := by
    have hz5 := HS5.out
    have hc : Chg w8 w10 (fun j => j = w.heap.size ∨ j = w.heap.size + 2) := by
      rw [hw10.out]
      exact Chg.setCells (O := (fun j => j = w.heap.size ∨ j = w.heap.size + 2)) (.inl (.inr rfl)) _ _ ((Chg.refl _ _).setCell (p := ⟨w.heap.size, 1, none⟩) (.inl (.inl rfl)) _)
    have ho := own_chg h8.out.1 hc fun g hg e => by
      have := (h8.out.1.lt g hg).1
      omega
    have e1 : (l ++ [(k, x)]).length = l.length + 1 := by simp
    refine ⟨HL0.out.st.below h4, ?_, fun p hp => ?_, HL0.out.hn, HL0.out.fl⟩
    · show RdO w10 O A8 (flatW (l ++ [(k, x)]))
      exact own_rdO ho fun j hj => by have := HO.out j hj; omega
    · rcases List.mem_append.1 (show p ∈ l ++ [(k, x)] from hp) with h | h
      · rw [HLL.out] at h
        exact HL0.out.ok p h
      · obtain rfl : p = (k, x) := by simpa using h
        exact HK.out
  exact bodyPost_ret (results_row_tmp rfl _ _ _ _ _ _ _ rfl h3 Try.underlying47 rfl (sizeRd'' _)) rfl ⟨_, by show RSt.mk _ _ _ _ _ = _; rw [HLL.out, HQ.out.2.1, HQ.out.1], rfl, hl10, h4⟩
theorem rput_any {w : World} {O : Nat → Prop} (hO : ∀ k, O k → k < w.heap.size) {d : RD} (h : Lies w O d) (hp : d.s.pend.length ≤ 1000000) (i : Int) (x : Sec) :
    Calls Try.prog 51 #[.agg d.cs.toArray, .int .i64 i, .agg x.cs.toArray] w fun e w' => ∃ d' : RD, d'.s = (d.s.put i x).1 ∧ e = .returned (.tuple #[.agg d'.cs.toArray, .int .i64 (d.s.put i x).2]) ∧ Lies w' O d' ∧ Below w.heap.size w w' := by
  by_cases h1 : hasF d.s.st.length i = true
  · by_cases h2 : d.s.count.pow.dead = true
    · have e : d.s.put i x = (d.s.count.pow, 42) := by unfold RSt.put; rw [if_pos h1, if_pos h2]
      rw [e]
      exact rput_dead h i x h1 h2
    · have e : d.s.put i x = ({ d.s.count.pow with pend := d.s.pend ++ [(i.toNat, x)] }, 0) := by unfold RSt.put; rw [if_pos h1, if_neg h2]
      rw [e]
      have h1' := h1
      unfold hasF at h1'
      rw [decide_eq_true_iff] at h1'
      obtain ⟨k, rfl⟩ := Int.eq_ofNat_of_zero_le h1'.1
      exact rput_ok hO h hp k x (by omega) (by simpa using h2)
  · have e : d.s.put i x = (d.s.count, 41) := if_neg h1
    rw [e]
    exact rput_none h i x (by simpa using h1)
end Go.Proofs.Ytegcknloemgndaa
