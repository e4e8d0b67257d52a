
/- Pointers to blocks: a pointer as a value; which can be, which stands ahead: plain mathematics. Walks: no hole, whether it can be. -/
import Derived.Test.YtgbghmgipnphkaaF7
import Derived.Laws.StructEq
set_option maxRecDepth 10000
namespace Go.Proofs.Ytgbghmgipnphkaa
open Go.RowKit

theorem rd_new (w : World) (cs : Array Value) (t : TypeId) : Rd (w.alloc (.cells cs t)) (w.alloc (.cells cs t)).heap.size (some ⟨w.heap.size, 0, none⟩) cs.toList := fun _ =>
  ⟨w.heap.size, 0, rfl, by simp, fun j v hv => by rw [Nat.zero_add, (Blk.new w t cs).cell j]; simpa using hv⟩
theorem rd_newf (w : World) (cs : Array Value) (t : TypeId) (fr : Nat × Nat) : Rd (w.alloc (.cells cs t fr)) (w.alloc (.cells cs t fr)).heap.size (some ⟨w.heap.size, 0, none⟩) cs.toList := fun _ =>
  ⟨w.heap.size, 0, rfl, by simp, fun j v hv => by rw [Nat.zero_add, cell_of_row _ _ j cs t fr (heap_alloc_new w _)]; simpa using hv⟩
theorem text_own {w : World} {base m s : Nat} {v : Value} {t : List UInt8} (ht : t.length = s) (h : w.ownsRow base 5 1 v m (bys [] ++ bys t)) : ∃ A c, v = .slice A s c ∧ Hid (OwnB w base (.slice A t.length c) t) := by
  have hm : m = t.length := by
    have := h.1
    simp [bys] at this
    omega
  subst hm
  have h' : OwnB w base v t := h
  obtain ⟨A, c, rfl, _⟩ := own_rd h'
  exact ⟨A, c, by rw [ht], h'⟩
/-- append([]byte{}, t...): the copy is a slice of the call's own. -/
theorem app_copy {ops : Array Oper} {rest : List Oper} {o : Oper} {a : Act} {w : World} {Q : Exit → Act → World → Prop} (hgd : o.guard = none) (s x : Nat)
    (ho : o.op = .call { callee := .builtin .append, args := #[.tmp s, .tmp x], argTypes := #[46, 46] })
    (hs : a.eval (.tmp s) = .slice (some ⟨w.heap.size, 0, none⟩) 0 0) (B : Nat) (A : Option Addr) (m n c : Nat) (t : List UInt8)
    (hx : a.eval (.tmp x) = .slice A m c) (hm : t.length = n) (hmn : m = n) (hr : Rd (w.alloc (.cells #[] 5)) B A (bys t)) (hn : n ≤ 140737488355328)
    (h : ∀ A' c' w', OwnB w' w.heap.size (.slice A' n c') t → Below w.heap.size w w' → wpList Try.prog ops Q rest (a.put o.dst (.slice A' n c')) w') :
    wpList Try.prog ops Q (o :: rest) a (w.alloc (.cells #[] 5)) := by
  subst hmn
  have hE := ownB_nil w w.heap.size (Nat.le_refl _)
  refine app_all Try.underlying46 infoByte rfl hgd s x ho w.heap.size _ 0 (bys []) hs hE B A m c _ hx (by rw [bys_len, hm]) hr bys_one (by simp) (by omega) (by omega) ?_
  intro v' w' h1 h2
  obtain ⟨A', c', rfl, hX⟩ := text_own hm h1
  exact h A' c' w' (by have h := hX.out; rwa [hm] at h) (below_own ((Below.refl _ _).alloc (Nat.le_refl _) _) hE (Nat.le_refl _) (by simp) h2)

/-- A pointer's value. -/
abbrev ptv (a b s : Int) : Value := .agg #[.int .i64 a, .int .u64 b, .int .u32 s]
def holeF (a b s : Int) : Bool := a == 0 && b == 0 && s == 0
def canF (a b : Int) : Bool := decide (4 ≤ a) && decide (a ≤ 1023) && decide (1 ≤ b) && decide (b ≤ 281474976710655)
def rightF (a b s : Int) : Bool := holeF a b s || canF a b
def lessF (a b s a' b' s' : Int) : Bool := if b ≠ b' then decide (b < b') else if a ≠ a' then decide (a < a') else decide (s < s')
def sinceF (a b s t : Int) : Bool := !holeF a b s && decide (t < b)
theorem ptr_struct : Try.prog.underlying 30 = some (.struct (Try.prog.fieldsOf 30)) := by kernel_rfl
theorem ptr_plain : Try.prog.stoodInHeld 30 = false := by kernel_rfl
/-- '==' of two pointers. -/
theorem run_eqP (a b s a' b' s' : Int) (w : World) : (binOp .eql 30 (ptv a b s) (ptv a' b' s')).run Try.prog w = .ok (.bool (a == a' && b == b' && s == s')) w := by
  have u1 := Try.underlying3
  have u2 := Try.underlying27
  have u3 := Try.underlying28
  have c1 : Try.prog.cellsOf 3 = 1 := by kernel_rfl
  have c2 : Try.prog.cellsOf 27 = 1 := by kernel_rfl
  have c3 : Try.prog.cellsOf 28 = 1 := by kernel_rfl
  rw [run_eql_struct, show (10000 : Nat) = 9999 + 1 from rfl, run_equalIn_agg w 9999 30 _ _ ptr_struct ptr_plain]
  simp only [Program.fieldsOf, Try.underlying30]
  go_simp
  by_cases h1 : a = a' <;> by_cases h2 : b = b' <;> by_cases h3 : s = s' <;> simp [h1, h2, h3]
theorem hole_any (a b s : Int) (w : World) :
    Calls Try.prog 25 #[ptv a b s] w fun e w' => e = .returned (.bool (holeF a b s)) ∧ Below w.heap.size w w' := by
  have hq := fun w => run_eqP a b s 0 0 0 w
  go_enter Try.func25, Try.ntmps25
  go_wp2_with fail
  go_ret
  exact ⟨ret_bool rfl, (Below.refl _ _).alloc (by omega) _⟩
theorem hole_yes : holeF 0 0 0 = true := rfl
theorem hole_no {a b s : Int} (h : ¬ (a = 0 ∧ b = 0 ∧ s = 0)) : holeF a b s = false := by
  simp only [holeF, Bool.and_eq_false_iff, beq_eq_false_iff_ne]
  omega
theorem can_yes {a b : Int} (h : 4 ≤ a ∧ a ≤ 1023 ∧ 1 ≤ b ∧ b ≤ 281474976710655) : canF a b = true := by
  simp [canF, h]
theorem can_no {a b : Int} (h : ¬ (4 ≤ a ∧ a ≤ 1023 ∧ 1 ≤ b ∧ b ≤ 281474976710655)) : canF a b = false := by
  simp only [canF, Bool.and_eq_false_iff, decide_eq_false_iff_not]
  omega
/-- A pointer in a block of its own. -/
abbrev pto (a b s : Int) : Obj := .cells #[.int .i64 a, .int .u64 b, .int .u32 s] 30
theorem ptr_here {w w1 : World} {a b s : Int} (h : Below (w.alloc (pto a b s)).heap.size (w.alloc (pto a b s)) w1) :
    w1.cell? ⟨w.heap.size, 0, none⟩ = some (.int .i64 a) ∧ w1.cell? ⟨w.heap.size, 1, none⟩ = some (.int .u64 b) ∧ w1.cell? ⟨w.heap.size, 2, none⟩ = some (.int .u32 s) := by
  have hB : Blk w1 w.heap.size 30 #[.int .i64 a, .int .u64 b, .int .u32 s] := (Blk.new w _ _).below h (by simp)
  exact ⟨hB.cell 0, hB.cell 1, hB.cell 2⟩
/-- The ways of a test whether it can be. -/
theorem can_ways (a b : Int) : a < 4 ∨ 4 ≤ a ∧ 1024 ≤ a ∨ 4 ≤ a ∧ a < 1024 ∧ b < 1 ∨ 4 ≤ a ∧ a < 1024 ∧ 1 ≤ b ∧ 281474976710656 ≤ b ∨ 4 ≤ a ∧ a < 1024 ∧ 1 ≤ b ∧ b < 281474976710656 := by omega
theorem right_any (a b s : Int) (w : World) :
    Calls Try.prog 18 #[ptv a b s] w fun e w' => e = .returned (.bool (rightF a b s)) ∧ Below w.heap.size w w' := by
  have hole := hole_any a b s
  rcases hh : holeF a b s with _ | _
  · rw [hh] at hole
    have hr : rightF a b s = canF a b := by simp [rightF, hh]
    rw [hr]
    clear hr hh
    have H := Lib.hid hole
    clear hole
    rcases can_ways a b with h1 | ⟨h1, h2⟩ | ⟨h1, h2, h3⟩ | ⟨h1, h2, h3, h4⟩ | ⟨h1, h2, h3, h4⟩
    all_goals
      first
        | have hc := can_yes (a := a) (b := b) (by omega)
        | have hc := can_no (a := a) (b := b) (by omega)
      rw [hc]
      clear hc
      go_enter Try.func18, Try.ntmps18
      go_wp2_with (go_at_call 25; refine (H.out _).mono ?_; rintro e w1 ⟨rfl, hb1⟩; obtain ⟨hc0, hc1, hc2⟩ := ptr_here hb1)
      have hb := (Below.refl w.heap.size w).trans ((((Below.refl w.heap.size w).alloc (by omega) _).trans (hb1.mono (by simp))))
      go_ret
      exact ⟨ret_bool (by first | rfl | (simp; omega)), hb⟩
  · have hr : rightF a b s = true := by simp [rightF, hh]
    rw [hr]
    rw [hh] at hole
    clear hr hh
    have H := Lib.hid hole
    clear hole
    go_enter Try.func18, Try.ntmps18
    go_wp2_with (go_at_call 25; refine (H.out _).mono ?_; rintro e w1 ⟨rfl, hb1⟩; obtain ⟨hc0, hc1, hc2⟩ := ptr_here hb1)
    have hb := (Below.refl w.heap.size w).trans ((((Below.refl w.heap.size w).alloc (by omega) _).trans (hb1.mono (by simp))))
    go_ret
    exact ⟨rfl, hb⟩
theorem rright_any (a b s : Int) (hb0 : 0 ≤ b) (w : World) :
    Calls Try.prog 28 #[ptv a b s] w fun e w' => e = .returned (.bool (rightF a b s)) ∧ Below w.heap.size w w' := by
  have hb := (Below.refl w.heap.size w).alloc (by omega) (pto a b s)
  by_cases hz : a = 0 ∧ b = 0 ∧ s = 0
  · obtain ⟨rfl, rfl, rfl⟩ := hz
    have hr : rightF 0 0 0 = true := rfl
    rw [hr]
    clear hr hb0
    go_enter Try.func28, Try.ntmps28
    go_wp2_with fail
    go_ret
    exact ⟨rfl, hb⟩
  · have hr : rightF a b s = canF a b := by simp [rightF, hole_no hz]
    rw [hr]
    clear hr
    have hz' : a ≠ 0 ∨ a = 0 ∧ b ≠ 0 ∨ a = 0 ∧ b = 0 ∧ s ≠ 0 := by omega
    clear hz
    rcases hz' with hz | ⟨hz1, hz⟩ | ⟨hz1, hz2, hz⟩
    · rcases can_ways a b with h1 | ⟨h1, h2⟩ | ⟨h1, h2, h3⟩ | ⟨h1, h2, h3, h4⟩ | ⟨h1, h2, h3, h4⟩
      all_goals
        first
          | have hc := can_yes (a := a) (b := b) (by omega)
          | have hc := can_no (a := a) (b := b) (by omega)
        rw [hc]
        clear hc
        go_enter Try.func28, Try.ntmps28
        go_wp2_with fail
        go_ret
        exact ⟨ret_bool (by first | rfl | (simp; omega)), hb⟩
    · subst hz1
      rw [can_no (by omega)]
      go_enter Try.func28, Try.ntmps28
      go_wp2_with fail
      go_ret
      exact ⟨ret_bool (by first | rfl | (simp; omega)), hb⟩
    · subst hz1
      subst hz2
      rw [can_no (by omega)]
      go_enter Try.func28, Try.ntmps28
      go_wp2_with fail
      go_ret
      exact ⟨ret_bool (by first | rfl | (simp; omega)), hb⟩
theorem since_any (a b s t : Int) (w : World) :
    Calls Try.prog 19 #[ptv a b s, .int .u64 t] w fun e w' => e = .returned (.bool (sinceF a b s t)) ∧ Below w.heap.size w w' := by
  have hole := hole_any a b s
  rcases hh : holeF a b s with _ | _
  · rw [hh] at hole
    have hr : sinceF a b s t = decide (t < b) := by simp [sinceF, hh]
    rw [hr]
    clear hr hh
    have H := Lib.hid hole
    clear hole
    go_enter Try.func19, Try.ntmps19
    go_wp2_with (go_at_call 25; refine (H.out _).mono ?_; rintro e w1 ⟨rfl, hb1⟩; obtain ⟨hc0, hc1, hc2⟩ := ptr_here hb1)
    have hb := (Below.refl w.heap.size w).trans ((((Below.refl w.heap.size w).alloc (by omega) _).trans (hb1.mono (by simp))))
    go_ret
    exact ⟨ret_bool (by first | rfl | (simp; done) | (simp; omega)), hb⟩
  · have hr : sinceF a b s t = false := by simp [sinceF, hh]
    rw [hr]
    rw [hh] at hole
    clear hr hh
    have H := Lib.hid hole
    clear hole
    go_enter Try.func19, Try.ntmps19
    go_wp2_with (go_at_call 25; refine (H.out _).mono ?_; rintro e w1 ⟨rfl, hb1⟩; obtain ⟨hc0, hc1, hc2⟩ := ptr_here hb1)
    have hb := (Below.refl w.heap.size w).trans ((((Below.refl w.heap.size w).alloc (by omega) _).trans (hb1.mono (by simp))))
    go_ret
    exact ⟨rfl, hb⟩
end Go.Proofs.Ytgbghmgipnphkaa
