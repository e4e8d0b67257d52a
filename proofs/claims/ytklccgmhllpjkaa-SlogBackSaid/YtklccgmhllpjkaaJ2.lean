/- Moves: whether one can be (the reference's right); two held against each other; Same. -/
import Derived.Test.YtklccgmhllpjkaaJ1
import Derived.Deep.RegionHeld3
set_option maxRecDepth 10000
namespace Go.Proofs.Ytklccgmhllpjkaa
open Go.RowKit

def rightM (m : Mv) : Bool := rightF 0 [(m.s, m.n)]
theorem jright_any (m : Mv) (hm : m.ok) (w : World) : Calls Try.prog 29 #[.agg m.cs.toArray] w fun e w' => e = .returned (.bool (rightM m)) ∧ Below w.heap.size w w' := by
  obtain ⟨_, c1, c2⟩ := (Blk.new w 54 m.cs.toArray).mvF
  have HB := Lib.hid (show Below w.heap.size w ((w.alloc (.cells m.cs.toArray 54)).alloc (.cells #[.int .i64 m.s, .int .i64 m.n] 52)) from ((Below.refl _ _).alloc (Nat.le_refl _) _).alloc (by simp) _)
  have hr := rd_new (w.alloc (.cells m.cs.toArray 54)) #[.int .i64 m.s, .int .i64 m.n] 52
  rw [show (w.alloc (.cells m.cs.toArray 54)).heap.size = w.heap.size + 1 by simp] at hr
  have HR := Lib.hid (rright_any (some ⟨w.heap.size + 1, 0, none⟩) 1 [(m.s, m.n)] _ hr (by intro p hp; simp only [List.mem_cons, List.not_mem_nil, or_false] at hp; subst hp; exact hm) (by simp))
  clear hr
  go_enter Try.func29, Try.ntmps29
  go_wp2_with (go_at_call 22; refine Calls.mono HR.out ?_; rintro e w1 ⟨rfl, hb1⟩; have HB1 := Lib.hid (HB.out.trans (hb1.mono HB.out.size)); clear hb1)
  go_ret
  exact ⟨rfl, HB1.out⟩

/-! ### '==' of two moves -/
theorem mv_struct : Try.prog.underlying 54 = some (.struct (Try.prog.fieldsOf 54)) := by kernel_rfl
theorem mv_plain : Try.prog.stoodInHeld 54 = false := by kernel_rfl
theorem sp_struct : Try.prog.underlying 52 = some (.struct (Try.prog.fieldsOf 52)) := by kernel_rfl
theorem sp_plain : Try.prog.stoodInHeld 52 = false := by kernel_rfl
theorem run_eqSin (s n s' n' : Int) (w : World) : (Op.equalIn 9999 52 (.agg #[.int .i64 s, .int .i64 n]) (.agg #[.int .i64 s', .int .i64 n'])).run Try.prog w = .ok (s == s' && n == n') w := by
  have u1 := Try.underlying3
  have c1 : Try.prog.cellsOf 3 = 1 := by kernel_rfl
  rw [show (9999 : Nat) = 9998 + 1 from rfl, run_equalIn_agg w 9998 52 _ _ sp_struct sp_plain]
  simp only [Program.fieldsOf, Try.underlying52]
  go_simp
  by_cases h1 : s = s' <;> by_cases h2 : n = n' <;> simp [h1, h2]
theorem run_eqMv (u v : Mv) (w : World) : (binOp .eql 54 (.agg u.cs.toArray) (.agg v.cs.toArray)).run Try.prog w = .ok (.bool (u.same v)) w := by
  have u1 := Try.underlying4
  have c1 : Try.prog.cellsOf 4 = 1 := by kernel_rfl
  have c4 : ∀ w, (isAgg 52).run Try.prog w = .ok true w := Try.isAgg52
  have c5 : ∀ w, (Go.sizeOf 52).run Try.prog w = .ok 2 w := Try.sizeOf52
  have hin := run_eqSin u.s u.n v.s v.n
  rw [run_eql_struct, show (10000 : Nat) = 9999 + 1 from rfl, run_equalIn_agg w 9999 54 _ _ mv_struct mv_plain]
  simp only [Program.fieldsOf, Try.underlying54]
  unfold Mv.cs
  go_simp
  unfold Mv.same
  by_cases h0 : u.t = v.t <;> by_cases h1 : u.s = v.s <;> by_cases h2 : u.n = v.n <;> simp [h0, h1, h2]
theorem run_neMv (u v : Mv) (w : World) : (binOp .neq 54 (.agg u.cs.toArray) (.agg v.cs.toArray)).run Try.prog w = .ok (.bool (!u.same v)) w := by
  have h := run_eqMv u v w
  rw [run_eql_struct] at h
  rw [run_neq_struct]
  revert h
  generalize (Op.equalIn 10000 54 (.agg u.cs.toArray) (.agg v.cs.toArray)).run Try.prog w = r
  intro h
  cases r with
  | ok b w' =>
    simp only [Result.andThen_ok, Result.ok.injEq, Value.bool.injEq] at h ⊢
    exact ⟨by rw [h.1], h.2⟩
  | halt x w' => simp [Result.andThen] at h
theorem ex_neM {o : Oper} {a : Act} {w : World} (x y : Operand) (ho : o.op = .binOp .neq 54 x y 54) (s t : Mv) (hx : a.eval x = .agg s.cs.toArray) (hy : a.eval y = .agg t.cs.toArray) :
    (execOp a.eval o).run Try.prog w = .ok (.value (.bool (!s.same t))) w := by
  have hg : ∀ x y w, (eqGuard .neq 54 x y (.agg s.cs.toArray) (.agg t.cs.toArray)).run Try.prog w = .ok () w := fun x y w => run_eqGuard_agg w _ _ _ _ _ _ (by kernel_rfl)
  unfold execOp
  simp only [ho, hx, hy, hg, run_neMv, Sem.run_bind, Sem.run_pure, Result.andThen_ok]
theorem ex_ldM {o : Oper} {a : Act} {w : World} (x : Operand) (ho : o.op = .load 54 x) (b k : Nat) (s : Mv) (hx : a.eval x = .pointer (some ⟨b, k, none⟩)) (hr : w.rangeAt b k s.cs) :
    (execOp a.eval o).run Try.prog w = .ok (.value (.agg s.cs.toArray)) w := by
  unfold execOp
  simp only [ho, hx, run_loadAt_mid w b k _ s.cs _ hr Try.underlying54 rfl (sizeMv' s), Sem.run_bind, Sem.run_pure, Result.andThen_ok]
set_option maxHeartbeats 1000000 in
theorem jsame_any (A A' : Option Addr) (c c' : Nat) (l m : List Mv) (w : World) (hs : Rd w w.heap.size A (mvs l)) (ht : Rd w w.heap.size A' (mvs m)) (hl : l.length ≤ 4503599627370496) :
    Calls Try.prog 15 #[.slice A l.length c, .slice A' m.length c'] w fun e w' => e = .returned (.bool (decide (l = m))) ∧ Below w.heap.size w w' := by
  by_cases hlen : l.length = m.length
  · have hge : m.length ≤ 4503599627370496 := by omega
    have hn : ((m.length : Int) != (m.length : Int)) = false := by simp
    have hml : (m.length : Int) ≤ 4503599627370496 := by omega
    go_enter Try.func15, Try.ntmps15
    rw [hlen]
    have Hlen := Lib.hid hlen
    have HS := Lib.hid hs
    have HT := Lib.hid ht
    clear hlen hs ht hl hge
    go_wp2_with fail
    go_loopw [13] (fun i wr => ∃ (k : Nat), k ≤ m.length ∧ i = .int .i64 k ∧ l.take k = m.take k ∧ Below w.heap.size w wr) (fun i _ => m.length - (intOf i).toNat)
    case atStart => exact ⟨0, by omega, rfl, rfl, Below.refl _ _⟩
    case round =>
      obtain ⟨k, hk, rfl, hr, hb⟩ := hrel
      have HB := Lib.hid hb
      clear hb
      by_cases hlt : k < m.length
      · have hlt' : k < l.length := by have := Hlen.out; omega
        obtain ⟨b, off, rfl, hbl, h1⟩ := HS.out.mv k hlt'
        obtain ⟨b', off', rfl, hbl', h2⟩ := HT.out.mv k hlt
        have HR1 : Hid (l[k] = m[k] → l.take (k + 1) = m.take (k + 1)) := fun h => take_more hlt' hlt hr h
        have HR2 : Hid (l[k] ≠ m[k] → l ≠ m) := fun h => take_ne hlt' hlt h
        have hS1 : Hid ((fun w' => w'.rangeAt b (off + k * 3) l[k].cs ∧ w'.rangeAt b' (off' + k * 3) m[k].cs) wr.drew) :=
          ⟨fun j v hj => (HB.out.cell (p := ⟨b, off + k * 3 + j, none⟩) hbl).trans (h1 j v hj), fun j v hj => (HB.out.cell (p := ⟨b', off' + k * 3 + j, none⟩) hbl').trans (h2 j v hj)⟩
        have HBD := Lib.hid HB.out.drew
        have hki : (k : Int) < m.length := by omega
        have HK := Lib.hid hlt
        clear HS HT h1 h2 hr hbl hbl'
        generalize l[k] = x at *
        generalize m[k] = y at *
        clear hlt hlt' hk
        obtain ⟨bs, hbs⟩ : ∃ bs, bs = x.same y := ⟨_, rfl⟩
        have HBS := Lib.hid hbs
        clear hbs
        go_wp2_with fail
        refine wp_region_held_drew (S := (fun w' => w'.rangeAt b (off + k * 3) x.cs ∧ w'.rangeAt b' (off' + k * 3) y.cs)) (by kernel_rfl) hS1.out (fun hHeld => ?_)
        clear hS1 HB
        generalize wr.drew = w19 at *
        refine wpAnyH_take (i := 0) (v := (.slice (some ⟨b, off, none⟩) m.length c)) rfl (by kernel_rfl) (by kernel_rfl) (by kernel_rfl) (fun _ _ _ h => h) (Or.inl ⟨by rfl, ?_⟩) (by assumption) ?_
        · intro w' hS; go_simp; try with_reducible rfl
        try simp [Act.put]
        refine wpAnyH_take (i := 1) (v := (.int .i64 (k : Int))) rfl (by kernel_rfl) (by kernel_rfl) (by kernel_rfl) (fun _ _ _ h => h) (Or.inl ⟨by rfl, ?_⟩) (by assumption) ?_
        · intro w' hS; go_simp; try with_reducible rfl
        try simp [Act.put]
        refine wpAnyH_take (i := 2) (v := (.pointer (some ⟨b, off + k * 3, none⟩))) rfl (by kernel_rfl) (by kernel_rfl) (by kernel_rfl) (fun _ _ _ h => h) (Or.inl ⟨by rfl, ?_⟩) (by assumption) ?_
        · intro w' hS; go_simp; try with_reducible rfl
        try simp [Act.put]
        refine wpAnyH_take (i := 3) (v := (.agg x.cs.toArray)) rfl (by kernel_rfl) (by kernel_rfl) (by kernel_rfl) (fun _ _ _ h => h) (Or.inl ⟨by rfl, ?_⟩) (by assumption) ?_
        · intro w' hS; exact ex_ldM (.tmp 18) rfl b (off + k * 3) x rfl hS.1
        try simp [Act.put]
        refine wpAnyH_take (i := 4) (v := (.slice (some ⟨b', off', none⟩) m.length c')) rfl (by kernel_rfl) (by kernel_rfl) (by kernel_rfl) (fun _ _ _ h => h) (Or.inl ⟨by rfl, ?_⟩) (by assumption) ?_
        · intro w' hS; go_simp; try with_reducible rfl
        try simp [Act.put]
        refine wpAnyH_take (i := 5) (v := (.int .i64 (k : Int))) rfl (by kernel_rfl) (by kernel_rfl) (by kernel_rfl) (fun _ _ _ h => h) (Or.inl ⟨by rfl, ?_⟩) (by assumption) ?_
        · intro w' hS; go_simp; try with_reducible rfl
        try simp [Act.put]
        refine wpAnyH_take (i := 6) (v := (.pointer (some ⟨b', off' + k * 3, none⟩))) rfl (by kernel_rfl) (by kernel_rfl) (by kernel_rfl) (fun _ _ _ h => h) (Or.inl ⟨by rfl, ?_⟩) (by assumption) ?_
        · intro w' hS; go_simp; try with_reducible rfl
        try simp [Act.put]
        refine wpAnyH_take (i := 7) (v := (.agg y.cs.toArray)) rfl (by kernel_rfl) (by kernel_rfl) (by kernel_rfl) (fun _ _ _ h => h) (Or.inl ⟨by rfl, ?_⟩) (by assumption) ?_
        · intro w' hS; exact ex_ldM (.tmp 22) rfl b' (off' + k * 3) y rfl hS.2
        try simp [Act.put]
        refine wpAnyH_take (i := 8) (v := (.bool (!bs))) rfl (by kernel_rfl) (by kernel_rfl) (by kernel_rfl) (fun _ _ _ h => h) (Or.inl ⟨by rfl, ?_⟩) (by assumption) ?_
        · intro w' hS; exact (ex_neM (.tmp 19) (.tmp 23) rfl x y rfl rfl).trans (by rw [HBS.out])
        try simp [Act.put]
        refine wpAnyH_done (by kernel_rfl) ?_ _
        clear hHeld
        cases bs with
        | true =>
          have HE : Hid (x = y) := Mv.same_iff.1 HBS.out.symm
          go_wp2_with fail
          go_roundw
          case rel => exact ⟨k + 1, HK.out, by go_num, HR1.out HE.out, HBD.out⟩
          case measure => have := HK.out; simp [intOf]; omega
        | false =>
          have HE : Hid (decide (l = m) = false) := decide_eq_false (HR2.out fun h => by have := HBS.out; rw [Mv.same_iff.2 h] at this; cases this)
          go_wp2_with fail
          go_ret
          exact ⟨ret_bool HE.out.symm, HBD.out⟩
      · obtain rfl : k = m.length := by omega
        have HE : Hid (decide (l = m) = true) := by
          refine decide_eq_true ?_
          rw [List.take_of_length_le (by have := Hlen.out; omega), List.take_of_length_le (Nat.le_refl _)] at hr
          exact hr
        clear hr hk hlt
        go_wp2_with fail
        go_ret
        exact ⟨ret_bool HE.out.symm, HB.out⟩
  · have hn : ((l.length : Int) != (m.length : Int)) = true := by rw [bne_iff_ne]; omega
    have HE : Hid (decide (l = m) = false) := decide_eq_false fun h => hlen (by rw [h])
    clear hlen hs ht
    go_enter Try.func15, Try.ntmps15
    go_wp2_with fail
    go_ret
    exact ⟨ret_bool HE.out.symm, Below.refl _ _⟩
end Go.Proofs.Ytklccgmhllpjkaa
