/- The texts Q1 Q2 Q3 Q4 Q5 Q6 Q7 Q8. -/
import Derived.Test.YtdcegkeaopjbnaaFA
import Derived.Laws.StructEq
import Derived.StillTailTactics
import Derived.Deep.RegionHeld3
import Derived.Laws.ResultCell
import Derived.Deep.MidRow
import Derived.Laws.BytesArg
import Derived.Laws.Strings
set_option maxRecDepth 10000
namespace Go.Proofs.Ytdcegkeaopjbnaa

section
open Go.RowKit

theorem rd_newf (w : World) (cs : Array Value) (t : TypeId) (fr : Nat × Nat) : Rd (w.alloc (.cells cs t fr)) (w.alloc (.cells cs t fr)).heap.size (some ⟨w.heap.size, 0, none⟩) cs.toList := fun _ =>
  ⟨w.heap.size, 0, rfl, by simp, fun j v hv => by rw [Nat.zero_add, cell_of_row _ _ j cs t fr (heap_alloc_new w _)]; simpa using hv⟩
theorem text_own {w : World} {base m s : Nat} {v : Value} {t : List UInt8} (ht : t.length = s) (h : w.ownsRow base 5 1 v m (bys [] ++ bys t)) : ∃ A c, v = .slice A s c ∧ Hid (OwnB w base (.slice A t.length c) t) := by
  have hm : m = t.length := by
    have := h.1
    simp [bys] at this
    omega
  subst hm
  have h' : OwnB w base v t := h
  obtain ⟨A, c, rfl, _⟩ := own_rd h'
  exact ⟨A, c, by rw [ht], h'⟩
/-- append([]byte{}, t...): the copy is a slice of the call's own. -/
theorem app_copy {ops : Array Oper} {rest : List Oper} {o : Oper} {a : Act} {w : World} {Q : Exit → Act → World → Prop} (hgd : o.guard = none) (s x : Nat)
    (ho : o.op = .call { callee := .builtin .append, args := #[.tmp s, .tmp x], argTypes := #[34, 34] })
    (hs : a.eval (.tmp s) = .slice (some ⟨w.heap.size, 0, none⟩) 0 0) (B : Nat) (A : Option Addr) (m n c : Nat) (t : List UInt8)
    (hx : a.eval (.tmp x) = .slice A m c) (hm : t.length = n) (hmn : m = n) (hr : Rd (w.alloc (.cells #[] 5)) B A (bys t)) (hn : n ≤ 140737488355328)
    (h : ∀ A' c' w', OwnB w' w.heap.size (.slice A' n c') t → Below w.heap.size w w' → wpList Try.prog ops Q rest (a.put o.dst (.slice A' n c')) w') :
    wpList Try.prog ops Q (o :: rest) a (w.alloc (.cells #[] 5)) := by
  subst hmn
  have hE := ownB_nil w w.heap.size (Nat.le_refl _)
  refine app_all Try.underlying34 infoByte rfl hgd s x ho w.heap.size _ 0 (bys []) hs hE B A m c _ hx (by rw [bys_len, hm]) hr bys_one (by simp) (by omega) (by omega) ?_
  intro v' w' h1 h2
  obtain ⟨A', c', rfl, hX⟩ := text_own hm h1
  exact h A' c' w' (by have h := hX.out; rwa [hm] at h) (below_own ((Below.refl _ _).alloc (Nat.le_refl _) _) hE (Nat.le_refl _) (by simp) h2)

/-- A pointer's value. -/
abbrev ptv (a b s : Int) : Value := .agg #[.int .i64 a, .int .u64 b, .int .u32 s]
def holeF (a b s : Int) : Bool := a == 0 && b == 0 && s == 0
def canF (a b : Int) : Bool := decide (4 ≤ a) && decide (a ≤ 1023) && decide (1 ≤ b) && decide (b ≤ 281474976710655)
def qrightF (a b s : Int) : Bool := holeF a b s || canF a b
def lessF (a b s a' b' s' : Int) : Bool := if b ≠ b' then decide (b < b') else if a ≠ a' then decide (a < a') else decide (s < s')
def sinceF (a b s t : Int) : Bool := !holeF a b s && decide (t < b)
theorem ptr_struct : Try.prog.underlying 25 = some (.struct (Try.prog.fieldsOf 25)) := by kernel_rfl
theorem ptr_plain : Try.prog.stoodInHeld 25 = false := by kernel_rfl
/-- '==' of two pointers. -/
theorem run_eqP (a b s a' b' s' : Int) (w : World) : (binOp .eql 25 (ptv a b s) (ptv a' b' s')).run Try.prog w = .ok (.bool (a == a' && b == b' && s == s')) w := by
  have u1 := Try.underlying3
  have u2 := Try.underlying22
  have u3 := Try.underlying23
  have c1 : Try.prog.cellsOf 3 = 1 := by kernel_rfl
  have c2 : Try.prog.cellsOf 22 = 1 := by kernel_rfl
  have c3 : Try.prog.cellsOf 23 = 1 := by kernel_rfl
  rw [run_eql_struct, show (10000 : Nat) = 9999 + 1 from rfl, run_equalIn_agg w 9999 25 _ _ ptr_struct ptr_plain]
  simp only [Program.fieldsOf, Try.underlying25]
  go_simp
  by_cases h1 : a = a' <;> by_cases h2 : b = b' <;> by_cases h3 : s = s' <;> simp [h1, h2, h3]
theorem hole_any (a b s : Int) (w : World) :
    Calls Try.prog 66 #[ptv a b s] w fun e w' => e = .returned (.bool (holeF a b s)) ∧ Below w.heap.size w w' := by
  have hq := fun w => run_eqP a b s 0 0 0 w
  go_enter Try.func66, Try.ntmps66
  go_wp2_with fail
  go_ret
  exact ⟨ret_bool rfl, (Below.refl _ _).alloc (by omega) _⟩
theorem hole_yes : holeF 0 0 0 = true := rfl
theorem hole_no {a b s : Int} (h : ¬ (a = 0 ∧ b = 0 ∧ s = 0)) : holeF a b s = false := by
  simp only [holeF, Bool.and_eq_false_iff, beq_eq_false_iff_ne]
  omega
theorem can_yes {a b : Int} (h : 4 ≤ a ∧ a ≤ 1023 ∧ 1 ≤ b ∧ b ≤ 281474976710655) : canF a b = true := by
  simp [canF, h]
theorem can_no {a b : Int} (h : ¬ (4 ≤ a ∧ a ≤ 1023 ∧ 1 ≤ b ∧ b ≤ 281474976710655)) : canF a b = false := by
  simp only [canF, Bool.and_eq_false_iff, decide_eq_false_iff_not]
  omega
/-- A pointer in a block of its own. -/
abbrev pto (a b s : Int) : Obj := .cells #[.int .i64 a, .int .u64 b, .int .u32 s] 25
theorem ptr_here {w w1 : World} {a b s : Int} (h : Below (w.alloc (pto a b s)).heap.size (w.alloc (pto a b s)) w1) :
    w1.cell? ⟨w.heap.size, 0, none⟩ = some (.int .i64 a) ∧ w1.cell? ⟨w.heap.size, 1, none⟩ = some (.int .u64 b) ∧ w1.cell? ⟨w.heap.size, 2, none⟩ = some (.int .u32 s) := by
  have hB : Blk w1 w.heap.size 25 #[.int .i64 a, .int .u64 b, .int .u32 s] := (Blk.new w _ _).below h (by simp)
  exact ⟨hB.cell 0, hB.cell 1, hB.cell 2⟩
/-- The ways of a test whether it can be. -/
theorem can_ways (a b : Int) : a < 4 ∨ 4 ≤ a ∧ 1024 ≤ a ∨ 4 ≤ a ∧ a < 1024 ∧ b < 1 ∨ 4 ≤ a ∧ a < 1024 ∧ 1 ≤ b ∧ 281474976710656 ≤ b ∨ 4 ≤ a ∧ a < 1024 ∧ 1 ≤ b ∧ b < 281474976710656 := by omega
theorem qright_any (a b s : Int) (w : World) :
    Calls Try.prog 59 #[ptv a b s] w fun e w' => e = .returned (.bool (qrightF a b s)) ∧ Below w.heap.size w w' := by
  have hole := hole_any a b s
  rcases hh : holeF a b s with _ | _
  · rw [hh] at hole
    have hr : qrightF a b s = canF a b := by simp [qrightF, hh]
    rw [hr]
    clear hr hh
    have H := Lib.hid hole
    clear hole
    rcases can_ways a b with h1 | ⟨h1, h2⟩ | ⟨h1, h2, h3⟩ | ⟨h1, h2, h3, h4⟩ | ⟨h1, h2, h3, h4⟩
    all_goals
      first
        | have hc := can_yes (a := a) (b := b) (by omega)
        | have hc := can_no (a := a) (b := b) (by omega)
      rw [hc]
      clear hc
      go_enter Try.func59, Try.ntmps59
      go_wp2_with (go_at_call 66; refine (H.out _).mono ?_; rintro e w1 ⟨rfl, hb1⟩; obtain ⟨hc0, hc1, hc2⟩ := ptr_here hb1)
      have hb := (Below.refl w.heap.size w).trans ((((Below.refl w.heap.size w).alloc (by omega) _).trans (hb1.mono (by simp))))
      go_ret
      exact ⟨ret_bool (by first | rfl | (simp; omega)), hb⟩
  · have hr : qrightF a b s = true := by simp [qrightF, hh]
    rw [hr]
    rw [hh] at hole
    clear hr hh
    have H := Lib.hid hole
    clear hole
    go_enter Try.func59, Try.ntmps59
    go_wp2_with (go_at_call 66; refine (H.out _).mono ?_; rintro e w1 ⟨rfl, hb1⟩; obtain ⟨hc0, hc1, hc2⟩ := ptr_here hb1)
    have hb := (Below.refl w.heap.size w).trans ((((Below.refl w.heap.size w).alloc (by omega) _).trans (hb1.mono (by simp))))
    go_ret
    exact ⟨rfl, hb⟩
end
section
open Go.RowKit

def cmpF (x y : Int) : Int := if x < y then -1 else if y < x then 1 else 0
def orF : List Int → Int
  | [] => 0
  | x :: r => if x = 0 then orF r else x

theorem less_or (a b s a' b' s' : Int) : decide (orF [cmpF b b', cmpF a a', cmpF s s'] < 0) = lessF a b s a' b' s' := by
  have h1 : ∀ x y : Int, cmpF x y = 0 ↔ x = y := fun x y => by unfold cmpF; split <;> (try split) <;> omega
  have h2 : ∀ x y : Int, cmpF x y < 0 ↔ x < y := fun x y => by unfold cmpF; split <;> (try split) <;> omega
  have h3 : ∀ x : Int, cmpF x x = 0 := fun x => (h1 x x).2 rfl
  by_cases e1 : b = b'
  · subst e1
    by_cases e2 : a = a'
    · subst e2
      by_cases e3 : s = s'
      · subst e3
        simp [orF, lessF, h3]
      · simp [orF, lessF, h3, h1, e3, h2]
    · simp [orF, lessF, h3, h1, e2, h2]
  · simp [orF, lessF, h1, e1, h2]
/-- Two pointers in blocks of their own. -/
theorem ptr_here2 {w w1 : World} {a b s a' b' s' : Int} (h : Below ((w.alloc (pto a b s)).alloc (pto a' b' s')).heap.size ((w.alloc (pto a b s)).alloc (pto a' b' s')) w1) :
    (w1.cell? ⟨w.heap.size, 0, none⟩ = some (.int .i64 a) ∧ w1.cell? ⟨w.heap.size, 1, none⟩ = some (.int .u64 b) ∧ w1.cell? ⟨w.heap.size, 2, none⟩ = some (.int .u32 s)) ∧
    w1.cell? ⟨w.heap.size + 1, 0, none⟩ = some (.int .i64 a') ∧ w1.cell? ⟨w.heap.size + 1, 1, none⟩ = some (.int .u64 b') ∧ w1.cell? ⟨w.heap.size + 1, 2, none⟩ = some (.int .u32 s') := by
  refine ⟨ptr_here ((((Below.refl _ _).alloc (Nat.le_refl _) _)).trans (h.mono (by simp))), ?_⟩
  have := ptr_here (w := w.alloc (pto a b s)) h
  simpa using this
end
section
open Go.RowKit

/-- A pointer's bytes. -/
def ptrBytes (n b s : Nat) : List UInt8 := bytesF 4 n ++ (bytesF 8 b ++ bytesF 4 s)
theorem ptrBytes_len (n b s : Nat) : (ptrBytes n b s).length = 16 := by simp [ptrBytes, bytesF_len]
theorem put_ptr {n b s : Nat} (hn : n < 4294967296) (hb : b < 18446744073709551616) (hs : s < 4294967296) : putF [4, 8, 4] [n, b, s] = some (ptrBytes n b s) := by
  have e4 : (256 : Nat) ^ (4 : Int).toNat = 4294967296 := by decide
  have e8 : (256 : Nat) ^ (8 : Int).toNat = 18446744073709551616 := by decide
  unfold putF putF putF putF
  rw [e4, e8, if_pos ⟨by omega, by omega, hn⟩, if_pos ⟨by omega, by omega, hb⟩, if_pos ⟨by omega, by omega, hs⟩]
  simp [ptrBytes]
theorem widths_any (w : World) : Calls Try.prog 61 #[] w fun e w' => e = .returned (.slice (some ⟨w.heap.size, 0, none⟩) 3 3) ∧ w' = w.alloc (.cells #[.int .i64 4, .int .i64 8, .int .i64 4] 3) := by
  go_enter Try.func61, Try.ntmps61
  go_wp2_with fail
  go_ret
  exact ⟨rfl, rfl⟩
theorem widths_rd {w w1 : World} (h : Below (w.alloc (.cells #[.int .i64 4, .int .i64 8, .int .i64 4] 3)).heap.size (w.alloc (.cells #[.int .i64 4, .int .i64 8, .int .i64 4] 3)) w1) : Rd w1 w1.heap.size (some ⟨w.heap.size, 0, none⟩) (wds [4, 8, 4]) :=
  ((rd_new w #[.int .i64 4, .int .i64 8, .int .i64 4] 3).below h).mono h.size
theorem put_yes {n b s : Nat} (hn : n < 4294967296) (hb : b < 18446744073709551616) (hs : s < 4294967296) (w : World) (A A' : Option Addr) (c c' : Nat) (h1 : Rd w w.heap.size A (wds [4, 8, 4])) (h2 : Rd w w.heap.size A' (uns [n, b, s])) :
    Calls Try.prog 60 #[.slice A 3 c, .slice A' 3 c'] w fun e w' => ∃ A2 c2, e = .returned (.tuple #[.slice A2 16 c2, .int .i64 0]) ∧ Rd w' w'.heap.size A2 (bys (ptrBytes n b s)) ∧ 16 ≤ c2 ∧ Below w.heap.size w w' := by
  refine (put_any A A' c c' [4, 8, 4] [n, b, s] w h1 h2 ?_ (by simp)).mono ?_
  · intro m hm
    simp only [List.mem_cons, List.not_mem_nil, or_false] at hm
    omega
  · rintro e w' ⟨A2, c2, he, h3, h4, h5⟩
    rw [put_ptr hn hb hs] at he h3 h4
    simp only [Option.getD_some, ptrBytes_len] at he h3 h4
    exact ⟨A2, c2, he, h3, h4, h5⟩
theorem rd_first (w : World) (cs : Array Value) (t : TypeId) (o : Obj) : Rd ((w.alloc (.cells cs t)).alloc o).drew ((w.alloc (.cells cs t)).alloc o).drew.heap.size (some ⟨w.heap.size, 0, none⟩) cs.toList :=
  ((rd_new w cs t).below (((Below.refl _ _).alloc (Nat.le_refl _) o).drew)).mono (by simp)
theorem rd_second (w : World) (cs : Array Value) (t : TypeId) (o : Obj) : Rd ((w.alloc o).alloc (.cells cs t)).drew ((w.alloc o).alloc (.cells cs t)).drew.heap.size (some ⟨w.heap.size + 1, 0, none⟩) cs.toList := by
  have h := (rd_new (w.alloc o) cs t).below (Below.refl _ _).drew
  simpa using h
/-- The numbers of a pointer, as the program lays them out. -/
abbrev numo (n b s : Nat) : Array Value := #[.int .u64 (IntKind.u64.wrap (n : Int)), .int .u64 b, .int .u64 (IntKind.u64.wrap (s : Int))]
theorem numo_eq {n b s : Nat} (hn : n < 4294967296) (hs : s < 4294967296) : (numo n b s).toList = uns [n, b, s] := by
  have h1 : IntKind.u64.wrap (n : Int) = n := by simp [IntKind.wrap, IntKind.signed, IntKind.bits]; omega
  have h2 : IntKind.u64.wrap (s : Int) = s := by simp [IntKind.wrap, IntKind.signed, IntKind.bits]; omega
  simp [uns, h1, h2]
/-- What a pointer is made of. -/
structure IsPtr (a b s : Int) : Prop where
  a0 : -9223372036854775808 ≤ a
  a1 : a ≤ 9223372036854775807
  b0 : 0 ≤ b
  b1 : b < 18446744073709551616
  s0 : 0 ≤ s
  s1 : s < 4294967296
theorem right_at {a b s : Int} (h : IsPtr a b s) (hr : qrightF a b s = true) : 0 ≤ a ∧ a ≤ 1023 ∧ 0 ≤ b ∧ b ≤ 281474976710655 := by
  have := h.b0
  simp only [qrightF, holeF, canF, Bool.or_eq_true, Bool.and_eq_true, beq_iff_eq, decide_eq_true_eq] at hr
  omega
theorem bytes_no {a b s : Int} (hr : qrightF a b s = false) (w : World) :
    Calls Try.prog 52 #[ptv a b s] w fun e w' => e = .returned (.tuple #[.slice none 0 0, .int .i64 51]) ∧ Below w.heap.size w w' := by
  have right := qright_any a b s
  rw [hr] at right
  have H := Lib.hid right
  clear right
  go_enter Try.func52, Try.ntmps52
  go_wp2_with (go_at_call 59; refine (H.out _).mono ?_; rintro e w1 ⟨rfl, hb1⟩)
  have hb := (Below.refl w.heap.size w).trans ((((Below.refl w.heap.size w).alloc (by omega) _).trans (hb1.mono (by simp))))
  go_ret2
  exact ⟨rfl, hb⟩
theorem below_two {w w1 w3 : World} {o o' : Obj} (hb : Below w.heap.size w w1) (h : Below ((w1.alloc o).alloc o').drew.heap.size ((w1.alloc o).alloc o').drew w3) : Below w.heap.size w w3 :=
  (((hb.alloc hb.size o).alloc (by have := hb.size; simp; omega) o').drew).trans (h.mono (by have := hb.size; simp; omega))
theorem bytes_yes {n b s : Nat} (hr : qrightF n b s = true) (hn : n ≤ 1023) (hb : b ≤ 281474976710655) (hs : s < 4294967296) (w : World) :
    Calls Try.prog 52 #[ptv n b s] w fun e w' => ∃ A2 c2, e = .returned (.tuple #[.slice A2 16 c2, .int .i64 0]) ∧ Rd w' w'.heap.size A2 (bys (ptrBytes n b s)) ∧ 16 ≤ c2 ∧ Below w.heap.size w w' := by
  have right := qright_any n b s
  rw [hr] at right
  have H := Lib.hid right
  have HW := Lib.hid widths_any
  have HN := Lib.hid (numo_eq (n := n) (b := b) (s := s) (by omega) (by omega))
  have HP := Lib.hid (put_yes (n := n) (b := b) (s := s) (by omega) (by omega) (by omega))
  have hn' : (n : Int) ≤ 1023 := by omega
  have hb' : (b : Int) ≤ 281474976710655 := by omega
  have hs' : (s : Int) ≤ 4294967295 := by omega
  clear right hr hn hb hs
  go_enter Try.func52, Try.ntmps52
  go_wp2_with (go_at_call 59; refine (H.out _).mono ?_; rintro e w1 ⟨rfl, hb1⟩; obtain ⟨hc0, hc1, hc2⟩ := ptr_here hb1)
  have hb := (Below.refl w.heap.size w).trans ((((Below.refl w.heap.size w).alloc (by omega) _).trans (hb1.mono (by simp))))
  have hlt : w.heap.size < w1.heap.size := by have := hb1.size; simp at this; omega
  clear hb1
  go_region_held3 (fun w' => w'.cell? ⟨w.heap.size, 0, none⟩ = some (.int .i64 n) ∧ w'.cell? ⟨w.heap.size, 1, none⟩ = some (.int .u64 b) ∧ w'.cell? ⟨w.heap.size, 2, none⟩ = some (.int .u32 s))
    (first
      | go_keep
      | (go_split_ands
         refine ⟨?_, ?_, ?_⟩
         · (refine Eq.trans (hb3.cell (by simp; omega)) ?_; assumption)
         · (refine Eq.trans (hb3.cell (by simp; omega)) ?_; assumption)
         · (refine Eq.trans (hb3.cell (by simp; omega)) ?_; assumption)))
    (first
      | (go_at_call 61; refine (HW.out _).mono ?_; rintro e w2 ⟨rfl, rfl⟩)
      | (go_at_call 60; refine (HP.out _ _ _ _ _ (by first | exact rd_first _ _ _ _ | exact rd_second _ _ _ _) (by first | exact HN.out ▸ rd_first _ _ _ _ | exact HN.out ▸ rd_second _ _ _ _)).mono ?_; rintro e w3 ⟨A2, c2, rfl, hA2, hc2, hb3⟩))
  all_goals (go_wp2_with fail)
  all_goals go_ret2
  all_goals exact ⟨A2, c2, rfl, hA2, hc2, below_two hb hb3⟩
/-- A row of the call's own stays where another grows. -/
theorem own_apart {w w' : World} {base e size n : Nat} {v : Value} {xs : List Value} {b : Option Nat} (h : w.ownsRow base e size v n xs) (hg : w.grownBy w' b) (hne : ∀ k, v.ownBlock = some k → b ≠ some k) : w'.ownsRow base e size v n xs := by
  refine ⟨h.1, ?_⟩
  rcases h.2 with h0 | ⟨g, cap, cur, rfl, hbg, hgg, hrest⟩
  · exact .inl h0
  · refine .inr ⟨g, cap, cur, rfl, hbg, ?_, hrest⟩
    have hlt : g < w.heap.size := (h.lt g rfl).2
    exact (hg.block g hlt (fun e => hne g rfl e.symm)).trans hgg
end
section
open Go.RowKit

theorem own_lt {w : World} {base : Nat} {v v' : Value} {l : List UInt8} (h : OwnB w base v l) (hb : ∀ k, v'.ownBlock = some k → k < base) : ∀ k, v.ownBlock = some k → v'.ownBlock ≠ some k := by
  intro k hk he
  have h1 := (World.ownsRow.lt h k hk).1
  have h2 := hb k he
  omega
theorem own_rd_at {w : World} {base e size n c : Nat} {A : Option Addr} {xs : List Value} (h : w.ownsRow base e size (.slice A n c) n xs) : Rd w w.heap.size A xs := by
  obtain ⟨A', c', he, hr, _⟩ := own_rd h
  injection he with h1 _ _
  subst h1
  exact hr
theorem ptr_bys (n b s : Nat) : bys (bytesF 4 n) ++ bys (bytesF 8 b) ++ bys (bytesF 4 s) = bys (ptrBytes n b s) := by
  simp [ptrBytes, bys_app]
end
section
open Go.RowKit

/-- What bytes say of a pointer. -/
def atN (l : List UInt8) : Nat := numF (l.take 4)
def bornN (l : List UInt8) : Nat := numF ((l.drop 4).take 8)
def sumN (l : List UInt8) : Nat := numF (l.drop 12)
theorem get_ptr {l : List UInt8} (h : l.length = 16) : getF [4, 8, 4] l = some [atN l, bornN l, sumN l] := by
  unfold getF getF getF getF
  rw [if_pos ⟨by omega, by omega, by rw [h]; omega⟩, if_pos ⟨by omega, by omega, by rw [List.length_drop, h]; decide⟩, if_pos ⟨by omega, by omega, by rw [List.length_drop, List.length_drop, h]; decide⟩]
  have e : ((l.drop (4 : Int).toNat).drop (8 : Int).toNat).drop (4 : Int).toNat = [] := by
    rw [List.drop_drop, List.drop_drop]
    exact List.drop_of_length_le (by rw [h]; decide)
  rw [if_pos e]
  have e2 : ((l.drop (4 : Int).toNat).drop (8 : Int).toNat).take (4 : Int).toNat = l.drop 12 := by
    rw [List.drop_drop]
    exact List.take_of_length_le (by rw [List.length_drop, h]; decide)
  rw [e2]
  rfl
theorem get_ptr_no {l : List UInt8} (h : l.length ≠ 16) : getF [4, 8, 4] l = none := get_unlike (by
  intro e
  have e' : (l.length : Int) = 16 := e
  omega)
theorem at_lt {l : List UInt8} (h : l.length = 16) : atN l < 4294967296 := by
  have := numF_lt (l.take 4)
  rw [List.length_take, h] at this
  exact this
theorem born_lt {l : List UInt8} (h : l.length = 16) : bornN l < 18446744073709551616 := by
  have := numF_lt ((l.drop 4).take 8)
  rw [List.length_take, List.length_drop, h] at this
  exact this
theorem sum_lt {l : List UInt8} (h : l.length = 16) : sumN l < 4294967296 := by
  have := numF_lt (l.drop 12)
  rw [List.length_drop, h] at this
  exact this
theorem get_yes (A A' : Option Addr) (c c' : Nat) (l : List UInt8) (h : l.length = 16) (hc : 16 ≤ c') (w : World) (h1 : Rd w w.heap.size A (wds [4, 8, 4])) (h2 : Rd w w.heap.size A' (bys l)) :
    Calls Try.prog 69 #[.slice A 3 c, .slice A' 16 c'] w fun e w' => ∃ A2 c2, e = .returned (.tuple #[.slice A2 3 c2, .int .i64 0]) ∧ Rd w' w'.heap.size A2 (uns [atN l, bornN l, sumN l]) ∧ 3 ≤ c2 ∧ Below w.heap.size w w' := by
  have H := get_any A A' c c' [4, 8, 4] l w h1 h2 (by omega) (by simp)
  rw [h] at H
  refine H.mono ?_
  rintro e w' ⟨A2, c2, he, h3, h4, h5⟩
  rw [get_ptr h] at he h3 h4
  exact ⟨A2, c2, he, h3, h4, h5⟩
theorem get_no' (A A' : Option Addr) (c c' : Nat) (l : List UInt8) (h : l.length ≠ 16) (hc : l.length ≤ c') (w : World) (h1 : Rd w w.heap.size A (wds [4, 8, 4])) (h2 : Rd w w.heap.size A' (bys l)) :
    Calls Try.prog 69 #[.slice A 3 c, .slice A' l.length c'] w fun e w' => ∃ A2 c2, e = .returned (.tuple #[.slice A2 0 c2, .int .i64 21]) ∧ Below w.heap.size w w' := by
  refine (get_any A A' c c' [4, 8, 4] l w h1 h2 hc (by simp)).mono ?_
  rintro e w' ⟨A2, c2, he, h3, h4, h5⟩
  rw [get_ptr_no h] at he
  exact ⟨A2, c2, he, h5⟩
/-- A stretch of a block is written. -/
theorem Blk.setCells {g : Nat} {t : TypeId} : ∀ (vs : List Value) (o : Nat) {w : World} {cs : Array Value}, Blk w g t cs → o + vs.length ≤ cs.size →
    ∃ cs' : Array Value, Blk (w.setCells g o vs) g t cs' ∧ cs'.size = cs.size ∧ ∀ k, cs'[k]? = if o ≤ k ∧ k < o + vs.length then vs[k - o]? else cs[k]?
  | [], o, w, cs, h, _ => ⟨cs, h, rfl, fun k => by rw [if_neg (by simp)]⟩
  | v :: r, o, w, cs, h, hl => by
    simp only [List.length_cons] at hl
    obtain ⟨cs', h1, h2, h3⟩ := Blk.setCells r (o + 1) (h.set_ o v) (by simp; omega)
    refine ⟨cs', h1, by rw [h2]; simp, fun k => ?_⟩
    rw [h3 k]
    simp only [List.length_cons]
    rcases Nat.lt_trichotomy k o with hk | hk | hk
    · rw [if_neg (by omega), if_neg (by omega), Array.getElem?_setIfInBounds_ne (by omega)]
    · subst hk
      rw [if_neg (by omega), if_pos (by omega)]
      simp only [Nat.sub_self, List.getElem?_cons_zero]
      rw [Array.getElem?_setIfInBounds_self_of_lt (by omega)]
    · by_cases hk2 : k < o + (r.length + 1)
      · rw [if_pos (by omega), if_pos (by omega), show k - o = (k - (o + 1)) + 1 by omega, List.getElem?_cons_succ]
      · rw [if_neg (by omega), if_neg (by omega), Array.getElem?_setIfInBounds_ne (by omega)]
theorem Blk.setTo {w : World} {g : Nat} {t : TypeId} {cs cs' : Array Value} (h : Blk w g t cs) (o : Nat) (vs : List Value) (ho : o + vs.length ≤ cs.size)
    (hc : ∀ k, cs'[k]? = if o ≤ k ∧ k < o + vs.length then vs[k - o]? else cs[k]?) : Blk (w.setCells g o vs) g t cs' := by
  obtain ⟨c, h1, _, h3⟩ := Blk.setCells vs o h ho
  rw [show cs' = c from Array.ext_getElem? fun k => (hc k).trans (h3 k).symm]
  exact h1
theorem Blk.range {w : World} {g : Nat} {t : TypeId} {cs : Array Value} (h : Blk w g t cs) (o : Nat) (vs : List Value) (hv : ∀ j v, vs[j]? = some v → cs[o + j]? = some v) : w.rangeAt g o vs := fun j v hj => (h.cell (o + j)).trans (hv j v hj)
theorem Blk.there {w : World} {g : Nat} {t : TypeId} {cs : Array Value} (h : Blk w g t cs) (o n : Nat) (hn : o + n ≤ cs.size) : w.there g o n := fun j hj =>
  ⟨by rw [h.cell]; simp; omega, h.frozen _⟩
theorem Blk.setAll {w : World} {g : Nat} {t : TypeId} {cs : Array Value} (h : Blk w g t cs) (vs : List Value) (hl : vs.length = cs.size) : Blk (w.setCells g 0 vs) g t vs.toArray :=
  h.setTo 0 vs (by omega) fun k => by
    by_cases hk : k < vs.length
    · rw [if_pos (by omega), List.getElem?_toArray]; rfl
    · rw [if_neg (by omega), List.getElem?_toArray, List.getElem?_eq_none (by omega), Array.getElem?_eq_none (by omega)]
theorem results_row_tmp {P : Program} {fn : Func} {p u : Tmp} {ty : TypeId} (h : fn.results = #[.cell p ty, .tmp u]) (tmps : Array Value) (w : World) (g : Nat) (t : TypeId) (cs : Array Value) (fr : Nat × Nat) (d : TypeDesc)
    (hp : tmps.getD p undef = .pointer (some ⟨g, 0, none⟩)) (hg : w.heap[g]? = some (.cells cs t fr))
    (hu : P.underlying ty = some d) (hd : (match d with | .struct _ | .array _ _ => true | _ => false) = true) (hi : (P.info? ty).map (·.size) = some cs.size) :
    (results fn tmps).run P w = .ok (.tuple #[.agg cs, tmps.getD u undef]) w := by
  have hp' : tmps[p]?.getD undef = .pointer (some ⟨g, 0, none⟩) := by simpa using hp
  simp [results, h, hp', asAddr, run_loadVar_row w g t ty cs fr d hg hu hd hi]
theorem Below.setCells {B : Nat} {a : World} (b : Nat) (hB : B ≤ b) : ∀ (vs : List Value) (o : Nat) {w : World}, Below B a w → Below B a (w.setCells b o vs)
  | [], _, _, h => h
  | _ :: vs, o, _, h => Below.setCells b hB vs (o + 1) (h.setCell hB _)
/-- The cells of a pointer. -/
abbrev pcs (a b s : Int) : Array Value := #[.int .i64 a, .int .u64 b, .int .u32 s]
theorem ptr_size : (Try.prog.info? 25).map (·.size) = some 3 := by kernel_rfl
/-- A pointer is stored in a block of its own. -/
theorem st_ptr {ops : Array Oper} {rest : List Oper} {o : Oper} {act : Act} {w : World} {Q : Exit → Act → World → Prop} (hgd : o.guard = none) (x y : Operand) (ho : o.op = .store 25 x y)
    (g : Nat) (t : TypeId) (cs : Array Value) (a b s : Int) (hx : act.eval x = .pointer (some ⟨g, 0, none⟩)) (hy : act.eval y = ptv a b s) (hB : Blk w g t cs) (h3 : cs.size = 3)
    (h : ∀ w', Blk w' g t (pcs a b s) → (∀ B a0, Below B a0 w → B ≤ g → Below B a0 w') → wpList Try.prog ops Q rest (act.put o.dst undef) w') : wpList Try.prog ops Q (o :: rest) act w := by
  refine wpList_store_mid hgd _ x y ho g 0 (pcs a b s) hx hy (hB.there 0 3 (by omega)) ptr_size (by simp [Value.oneCell']) ?_
  exact h _ (hB.setAll [.int .i64 a, .int .u64 b, .int .u32 s] (by rw [h3]; rfl)) fun B a0 hb hg => Below.setCells g hg _ _ hb
theorem ld_ptr {ops : Array Oper} {rest : List Oper} {o : Oper} {act : Act} {w : World} {Q : Exit → Act → World → Prop} (hgd : o.guard = none) (x : Operand) (ho : o.op = .load 25 x)
    (g : Nat) (t : TypeId) (a b s : Int) (hx : act.eval x = .pointer (some ⟨g, 0, none⟩)) (hB : Blk w g t (pcs a b s))
    (h : wpList Try.prog ops Q rest (act.put o.dst (ptv a b s)) w) : wpList Try.prog ops Q (o :: rest) act w :=
  wpList_load_mid hgd _ x ho g 0 hx [.int .i64 a, .int .u64 b, .int .u32 s] _ (hB.range 0 _ fun j v hv => by rw [Nat.zero_add, List.getElem?_toArray]; exact hv) Try.underlying25 rfl ptr_size h
theorem ret_ptr {w : World} {g : Nat} {t : TypeId} {a b s : Int} {fn : Func} {p u : Tmp} {tmps : Array Value} (hf : fn.results = #[.cell p 25, .tmp u]) (hB : Blk w g t (pcs a b s)) (hp : tmps.getD p undef = .pointer (some ⟨g, 0, none⟩)) :
    (results fn tmps).run Try.prog w = .ok (.tuple #[ptv a b s, tmps.getD u undef]) w :=
  results_row_tmp hf tmps w g t (pcs a b s) (0, 0) _ hp hB Try.underlying25 rfl ptr_size
abbrev wido : Obj := .cells #[.int .i64 4, .int .i64 8, .int .i64 4] 3
theorem below_two' (w : World) (o o' : Obj) : Below w.heap.size w ((w.alloc o).alloc o') := ((Below.refl w.heap.size w).alloc (by omega) o).alloc (by simp) o'
theorem wid_rd2 (w : World) (o : Obj) : Rd ((w.alloc o).alloc wido) ((w.alloc o).alloc wido).heap.size (some ⟨w.heap.size + 1, 0, none⟩) (wds [4, 8, 4]) := by
  have h := rd_new (w.alloc o) #[.int .i64 4, .int .i64 8, .int .i64 4] 3
  have e : (w.alloc o).heap.size = w.heap.size + 1 := by simp
  rw [e] at h
  exact h
theorem read_long (A : Option Addr) (c : Nat) (l : List UInt8) (h : l.length ≠ 16) (hc : l.length ≤ c) (w : World) (hs : Rd w w.heap.size A (bys l)) :
    Calls Try.prog 62 #[.slice A l.length c] w fun e w' => e = .returned (.tuple #[ptv 0 0 0, .int .i64 51]) ∧ Below w.heap.size w w' := by
  have HG := Lib.hid (fun A2 c2 => get_no' A2 A c2 c l h hc)
  have HW := Lib.hid widths_any
  clear h hc
  go_enter Try.func62, Try.ntmps62
  go_wp2_with (go_at_call 61; refine (HW.out _).mono ?_; rintro e w1 ⟨rfl, rfl⟩)
  refine (HG.out _ _ _ (wid_rd2 w _) (((hs.below (below_two' w _ _)).mono (by simp; omega)))).mono ?_
  rintro e w3 ⟨A2, c2, rfl, hb3⟩
  have hB : Blk w3 w.heap.size 25 (pcs 0 0 0) := ((Blk.new w _ _).below ((Below.refl _ _).alloc (Nat.le_refl _) _) (by simp)).below hb3 (by simp; omega)
  have hb := (below_two' w _ _).trans (hb3.mono (by simp; omega))
  clear hb3
  have hle : w.heap.size ≤ w.heap.size := Nat.le_refl _
  have HB := Lib.hid hb
  have hB' := Lib.hid hB
  clear hb hB
  go_wp2_with (refine st_ptr rfl (.tmp 2) (.tmp 15) rfl w.heap.size 25 _ 0 0 0 rfl rfl hB'.out rfl ?_; intro w4 hB4 hk4)
  refine bodyPost_ret (ret_ptr rfl hB4 rfl) rfl ⟨rfl, hk4 _ _ HB.out hle⟩
end
section
open Go.RowKit

theorem un3_at {w : World} {B : Nat} {A : Option Addr} {n b s : Nat} (h : Rd w B A (uns [n, b, s])) : ∃ g off, A = some ⟨g, off, none⟩ ∧ g < B ∧
    w.cell? ⟨g, off, none⟩ = some (.int .u64 n) ∧ w.cell? ⟨g, off + 1, none⟩ = some (.int .u64 b) ∧ w.cell? ⟨g, off + 2, none⟩ = some (.int .u64 s) := by
  obtain ⟨g, off, rfl, hg, hc⟩ := h (by simp [uns])
  exact ⟨g, off, rfl, hg, hc 0 _ rfl, hc 1 _ rfl, hc 2 _ rfl⟩
theorem wrapI {n : Nat} (h : n < 4294967296) : IntKind.i64.wrap (n : Int) = n := by
  simp [IntKind.wrap, IntKind.signed, IntKind.bits]; omega
theorem wrapW {n : Nat} (h : n < 4294967296) : IntKind.u32.wrap (n : Int) = n := by
  simp [IntKind.wrap, IntKind.signed, IntKind.bits]; omega
theorem read_yes (A : Option Addr) (c : Nat) (l : List UInt8) (h : l.length = 16) (hc : 16 ≤ c) (w : World) (hs : Rd w w.heap.size A (bys l)) (hr : qrightF (atN l) (bornN l) (sumN l) = true) :
    Calls Try.prog 62 #[.slice A 16 c] w fun e w' => e = .returned (.tuple #[ptv (atN l) (bornN l) (sumN l), .int .i64 0]) ∧ Below w.heap.size w w' := by
  have HG := Lib.hid (fun A2 c2 => get_yes A2 A c2 c l h hc)
  have HW := Lib.hid widths_any
  have right := qright_any (atN l) (bornN l) (sumN l)
  rw [hr] at right
  have HR := Lib.hid right
  have H1 := at_lt h
  have H2 := born_lt h
  have H3 := sum_lt h
  clear h hc hr right
  generalize atN l = n at *
  generalize bornN l = b at *
  generalize sumN l = s at *
  have hn' : (n : Int) ≤ 4294967295 := by omega
  have hb' : (b : Int) ≤ 18446744073709551615 := by omega
  have hs' : (s : Int) ≤ 4294967295 := by omega
  have W1 := Lib.hid (wrapI H1)
  have W3 := Lib.hid (wrapW H3)
  clear H1 H2 H3
  go_enter Try.func62, Try.ntmps62
  go_wp2_with (go_at_call 61; refine (HW.out _).mono ?_; rintro e w1 ⟨rfl, rfl⟩)
  refine (HG.out _ _ _ (wid_rd2 w _) (((hs.below (below_two' w _ _)).mono (by simp; omega)))).mono ?_
  rintro e w3 ⟨A2, c2, rfl, hrd, hc2, hb3⟩
  have hB : Blk w3 w.heap.size 25 (pcs 0 0 0) := ((Blk.new w _ _).below ((Below.refl _ _).alloc (Nat.le_refl _) _) (by simp)).below hb3 (by simp; omega)
  have hb := (below_two' w _ _).trans (hb3.mono (by simp; omega))
  have hlt : w.heap.size < w3.heap.size := by have := hb3.size; simp at this; omega
  have HB := Lib.hid hb
  have hB' := Lib.hid hB
  clear hb hB hb3
  obtain ⟨g, off, rfl, hg, g0, g1, g2⟩ := un3_at hrd
  clear hrd
  go_wp2_with fail
  go_region_held3 (fun w' => w'.cell? ⟨g, off, none⟩ = some (.int .u64 n) ∧ w'.cell? ⟨g, off + 1, none⟩ = some (.int .u64 b) ∧ w'.cell? ⟨g, off + 2, none⟩ = some (.int .u64 s))
    (first
      | go_keep)
    (first
      | fail)
  rw [W1.out, W3.out]
  have P4 := Lib.hid (show Blk (w3.alloc (pto n b s)).drew w3.heap.size 25 (pcs n b s) from Blk.new _ _ _)
  have Z4 := Lib.hid (show Blk (w3.alloc (pto n b s)).drew w.heap.size 25 (pcs 0 0 0) from hB'.out.below (((Below.refl _ _).alloc (Nat.le_refl _) _).drew) hlt)
  have HB4 := Lib.hid (show Below w.heap.size w (w3.alloc (pto n b s)).drew from (HB.out.alloc HB.out.size _).drew)
  have hlt4 : w3.heap.size < (w3.alloc (pto n b s)).drew.heap.size := by simp
  have c0 := P4.out.cell 0
  have c1 := P4.out.cell 1
  have c2' := P4.out.cell 2
  clear g0 g1 g2 W1 W3
  generalize (w3.alloc (pto n b s)).drew = w4 at *
  go_wp2_with fail
  refine (HR.out _).mono ?_
  rintro e w5 ⟨rfl, hb5⟩
  have P5 := Lib.hid (P4.out.below hb5 hlt4)
  have Z5 := Lib.hid (Z4.out.below hb5 (Nat.lt_trans hlt hlt4))
  have HB5 := Lib.hid (HB4.out.trans (hb5.mono HB4.out.size))
  clear hb5 P4 Z4 HB4 c0 c1 c2' HB hB'
  go_wp2_with (first
    | (with_reducible refine ld_ptr rfl (.tmp 6) rfl w3.heap.size 25 n b s rfl P5.out ?_)
    | (refine st_ptr rfl (.tmp 2) (.tmp 32) rfl w.heap.size 25 _ n b s rfl rfl Z5.out rfl ?_; intro w6 hB6 hk6))
  refine bodyPost_ret (ret_ptr rfl hB6 rfl) rfl ⟨rfl, hk6 _ _ HB5.out (Nat.le_refl _)⟩
theorem read_bad (A : Option Addr) (c : Nat) (l : List UInt8) (h : l.length = 16) (hc : 16 ≤ c) (w : World) (hs : Rd w w.heap.size A (bys l)) (hr : qrightF (atN l) (bornN l) (sumN l) = false) :
    Calls Try.prog 62 #[.slice A 16 c] w fun e w' => e = .returned (.tuple #[ptv 0 0 0, .int .i64 51]) ∧ Below w.heap.size w w' := by
  have HG := Lib.hid (fun A2 c2 => get_yes A2 A c2 c l h hc)
  have HW := Lib.hid widths_any
  have right := qright_any (atN l) (bornN l) (sumN l)
  rw [hr] at right
  have HR := Lib.hid right
  have H1 := at_lt h
  have H2 := born_lt h
  have H3 := sum_lt h
  clear h hc hr right
  generalize atN l = n at *
  generalize bornN l = b at *
  generalize sumN l = s at *
  have hn' : (n : Int) ≤ 4294967295 := by omega
  have hb' : (b : Int) ≤ 18446744073709551615 := by omega
  have hs' : (s : Int) ≤ 4294967295 := by omega
  have W1 := Lib.hid (wrapI H1)
  have W3 := Lib.hid (wrapW H3)
  clear H1 H2 H3
  go_enter Try.func62, Try.ntmps62
  go_wp2_with (go_at_call 61; refine (HW.out _).mono ?_; rintro e w1 ⟨rfl, rfl⟩)
  refine (HG.out _ _ _ (wid_rd2 w _) (((hs.below (below_two' w _ _)).mono (by simp; omega)))).mono ?_
  rintro e w3 ⟨A2, c2, rfl, hrd, hc2, hb3⟩
  have hB : Blk w3 w.heap.size 25 (pcs 0 0 0) := ((Blk.new w _ _).below ((Below.refl _ _).alloc (Nat.le_refl _) _) (by simp)).below hb3 (by simp; omega)
  have hb := (below_two' w _ _).trans (hb3.mono (by simp; omega))
  have hlt : w.heap.size < w3.heap.size := by have := hb3.size; simp at this; omega
  have HB := Lib.hid hb
  have hB' := Lib.hid hB
  clear hb hB hb3
  obtain ⟨g, off, rfl, hg, g0, g1, g2⟩ := un3_at hrd
  clear hrd
  go_wp2_with fail
  go_region_held3 (fun w' => w'.cell? ⟨g, off, none⟩ = some (.int .u64 n) ∧ w'.cell? ⟨g, off + 1, none⟩ = some (.int .u64 b) ∧ w'.cell? ⟨g, off + 2, none⟩ = some (.int .u64 s))
    (first
      | go_keep)
    (first
      | fail)
  rw [W1.out, W3.out]
  have P4 := Lib.hid (show Blk (w3.alloc (pto n b s)).drew w3.heap.size 25 (pcs n b s) from Blk.new _ _ _)
  have Z4 := Lib.hid (show Blk (w3.alloc (pto n b s)).drew w.heap.size 25 (pcs 0 0 0) from hB'.out.below (((Below.refl _ _).alloc (Nat.le_refl _) _).drew) hlt)
  have HB4 := Lib.hid (show Below w.heap.size w (w3.alloc (pto n b s)).drew from (HB.out.alloc HB.out.size _).drew)
  have hlt4 : w3.heap.size < (w3.alloc (pto n b s)).drew.heap.size := by simp
  have c0 := P4.out.cell 0
  have c1 := P4.out.cell 1
  have c2' := P4.out.cell 2
  clear g0 g1 g2 W1 W3
  generalize (w3.alloc (pto n b s)).drew = w4 at *
  go_wp2_with fail
  refine (HR.out _).mono ?_
  rintro e w5 ⟨rfl, hb5⟩
  have Z5 := Lib.hid (Z4.out.below hb5 (Nat.lt_trans hlt hlt4))
  have HB5 := Lib.hid (HB4.out.trans (hb5.mono HB4.out.size))
  clear hb5 P4 Z4 HB4 c0 c1 c2' HB hB'
  go_wp2_with (refine st_ptr rfl (.tmp 2) (.tmp 31) rfl w.heap.size 25 _ 0 0 0 rfl rfl Z5.out rfl ?_; intro w6 hB6 hk6)
  refine bodyPost_ret (ret_ptr rfl hB6 rfl) rfl ⟨rfl, hk6 _ _ HB5.out (Nat.le_refl _)⟩
end
section
open Go.RowKit
end
section
open Go.RowKit

def qstrF (l : List UInt8) : ByteArray := ⟨l.toArray⟩
theorem strF_list (l : List UInt8) : (qstrF l).toList = l := ByteArray.toList_mk l
theorem neq_self (x : List UInt8) : ((qstrF x).toList == (qstrF x).toList) = true := by simp

/-! ### Contracts whole -/
def bsF (a b s : Int) : List UInt8 := if qrightF a b s then ptrBytes a.toNat b.toNat s.toNat else []
def bsC (a b s : Int) : Int := if qrightF a b s then 0 else 51
def okF (l : List UInt8) : Bool := decide (l.length = 16) && qrightF (atN l) (bornN l) (sumN l)
def rdA (l : List UInt8) : Int := if okF l then atN l else 0
def rdB (l : List UInt8) : Int := if okF l then bornN l else 0
def rdS (l : List UInt8) : Int := if okF l then sumN l else 0
def rdC (l : List UInt8) : Int := if okF l then 0 else 51
def GivesQ (a b s : Int) (w : World) (e : Ending) (w' : World) : Prop :=
  ∃ A c, e = .returned (.tuple #[.slice A (bsF a b s).length c, .int .i64 (bsC a b s)]) ∧ Rd w' w'.heap.size A (bys (bsF a b s)) ∧ (bsF a b s).length ≤ c ∧ Below w.heap.size w w'
theorem gives_yes {a b s : Int} (hr : qrightF a b s = true) {w w' : World} {e : Ending} (h : ∃ A2 c2, e = .returned (.tuple #[.slice A2 16 c2, .int .i64 0]) ∧ Rd w' w'.heap.size A2 (bys (ptrBytes a.toNat b.toNat s.toNat)) ∧ 16 ≤ c2 ∧ Below w.heap.size w w') : GivesQ a b s w e w' := by
  obtain ⟨A, c, rfl, h1, h2, h3⟩ := h
  have e1 : bsF a b s = ptrBytes a.toNat b.toNat s.toNat := if_pos hr
  have e2 : bsC a b s = 0 := if_pos hr
  unfold GivesQ
  rw [e1, e2, ptrBytes_len]
  exact ⟨A, c, rfl, h1, h2, h3⟩
theorem gives_no {a b s : Int} (hr : qrightF a b s = false) {w w' : World} {e : Ending} (h : e = .returned (.tuple #[.slice none 0 0, .int .i64 51]) ∧ Below w.heap.size w w') : GivesQ a b s w e w' := by
  obtain ⟨rfl, h3⟩ := h
  have e1 : bsF a b s = [] := if_neg (by simp [hr])
  have e2 : bsC a b s = 51 := if_neg (by simp [hr])
  unfold GivesQ
  rw [e1, e2]
  exact ⟨none, 0, rfl, Rd.nil, by simp, h3⟩
theorem bytes_any {a b s : Int} (h : IsPtr a b s) (w : World) : Calls Try.prog 52 #[ptv a b s] w (GivesQ a b s w) := by
  rcases hr : qrightF a b s with _ | _
  · exact (bytes_no hr w).mono fun e w' h => gives_no hr h
  · have h1 := right_at h hr
    have h2 := h.s1
    have h3 := h.s0
    obtain ⟨n, rfl⟩ := Int.eq_ofNat_of_zero_le h1.1
    obtain ⟨m, rfl⟩ := Int.eq_ofNat_of_zero_le h1.2.2.1
    obtain ⟨k, rfl⟩ := Int.eq_ofNat_of_zero_le h3
    exact (bytes_yes hr (by omega) (by omega) (by omega) w).mono fun e w' h => gives_yes hr h
theorem ok_yes {l : List UInt8} (h : l.length = 16) (hr : qrightF (atN l) (bornN l) (sumN l) = true) : okF l = true := by simp [okF, h, hr]
theorem ok_bad {l : List UInt8} (hr : qrightF (atN l) (bornN l) (sumN l) = false) : okF l = false := by simp [okF, hr]
theorem ok_long {l : List UInt8} (h : l.length ≠ 16) : okF l = false := by simp [okF, h]
theorem rd_yes {l : List UInt8} (h : okF l = true) : rdA l = atN l ∧ rdB l = bornN l ∧ rdS l = sumN l ∧ rdC l = 0 := ⟨if_pos h, if_pos h, if_pos h, if_pos h⟩
theorem rd_no {l : List UInt8} (h : okF l = false) : rdA l = 0 ∧ rdB l = 0 ∧ rdS l = 0 ∧ rdC l = 51 := by
  have h' : ¬ okF l = true := by simp [h]
  exact ⟨if_neg h', if_neg h', if_neg h', if_neg h'⟩
theorem qread_any (A : Option Addr) (c : Nat) (l : List UInt8) (hc : l.length ≤ c) (w : World) (hs : Rd w w.heap.size A (bys l)) :
    Calls Try.prog 62 #[.slice A l.length c] w fun e w' => e = .returned (.tuple #[ptv (rdA l) (rdB l) (rdS l), .int .i64 (rdC l)]) ∧ Below w.heap.size w w' := by
  by_cases h : l.length = 16
  · rcases hr : qrightF (atN l) (bornN l) (sumN l) with _ | _
    · obtain ⟨e1, e2, e3, e4⟩ := rd_no (ok_bad hr)
      rw [e1, e2, e3, e4, h]
      exact read_bad A c l h (by omega) w hs hr
    · obtain ⟨e1, e2, e3, e4⟩ := rd_yes (ok_yes h hr)
      rw [e1, e2, e3, e4, h]
      exact read_yes A c l h (by omega) w hs hr
  · obtain ⟨e1, e2, e3, e4⟩ := rd_no (ok_long h)
    rw [e1, e2, e3, e4]
    exact read_long A c l h hc w hs
theorem rd_is (l : List UInt8) : IsPtr (rdA l) (rdB l) (rdS l) := by
  rcases ho : okF l with _ | _
  · obtain ⟨e1, e2, e3, -⟩ := rd_no ho
    rw [e1, e2, e3]
    exact ⟨by omega, by omega, by omega, by omega, by omega, by omega⟩
  · have hl : l.length = 16 := by
      simp only [okF, Bool.and_eq_true, decide_eq_true_eq] at ho
      exact ho.1
    obtain ⟨e1, e2, e3, -⟩ := rd_yes ho
    have h1 := at_lt hl
    have h2 := born_lt hl
    have h3 := sum_lt hl
    rw [e1, e2, e3]
    exact ⟨by omega, by omega, by omega, by omega, by omega, by omega⟩

/-! ### There and back -/
theorem ptrBytes_at (n b s : Nat) (hn : n < 4294967296) : atN (ptrBytes n b s) = n := by
  unfold atN ptrBytes
  rw [List.take_append_of_le_length (by rw [bytesF_len]; omega), List.take_of_length_le (by rw [bytesF_len]; omega), numF_bytesF]
  exact Nat.mod_eq_of_lt hn
theorem ptrBytes_born (n b s : Nat) (hb : b < 18446744073709551616) : bornN (ptrBytes n b s) = b := by
  unfold bornN ptrBytes
  have e := bytesF_len 4 n
  rw [List.drop_append_of_le_length (by omega), List.drop_of_length_le (by omega), List.nil_append, List.take_append_of_le_length (by rw [bytesF_len]; omega), List.take_of_length_le (by rw [bytesF_len]; omega), numF_bytesF]
  exact Nat.mod_eq_of_lt hb
theorem ptrBytes_sum (n b s : Nat) (hs : s < 4294967296) : sumN (ptrBytes n b s) = s := by
  unfold sumN ptrBytes
  rw [← List.append_assoc, List.drop_append_of_le_length (by simp [bytesF_len]), List.drop_of_length_le (by simp [bytesF_len]), List.nil_append, numF_bytesF]
  exact Nat.mod_eq_of_lt hs
theorem ptrBytes_of {l : List UInt8} (h : l.length = 16) : ptrBytes (atN l) (bornN l) (sumN l) = l := by
  have e1 : bytesF 4 (atN l) = l.take 4 := by
    have := bytesF_numF (l.take 4)
    rwa [List.length_take, h] at this
  have e2 : bytesF 8 (bornN l) = (l.drop 4).take 8 := by
    have := bytesF_numF ((l.drop 4).take 8)
    rwa [List.length_take, List.length_drop, h] at this
  have e3 : bytesF 4 (sumN l) = l.drop 12 := by
    have := bytesF_numF (l.drop 12)
    rwa [List.length_drop, h] at this
  unfold ptrBytes
  rw [e1, e2, e3]
  have e4 : (l.drop 4).take 8 ++ l.drop 12 = l.drop 4 := by
    have := List.take_append_drop 8 (l.drop 4)
    rwa [List.drop_drop] at this
  rw [e4, List.take_append_drop]
/-- Bytes, read again. -/
theorem back_ptr {a b s : Int} (h : IsPtr a b s) (hr : qrightF a b s = true) : okF (bsF a b s) = true ∧ rdA (bsF a b s) = a ∧ rdB (bsF a b s) = b ∧ rdS (bsF a b s) = s ∧ rdC (bsF a b s) = 0 ∧ (bsF a b s).length = 16 := by
  have h1 := right_at h hr
  have h2 := h.s1
  have h3 := h.s0
  obtain ⟨n, rfl⟩ := Int.eq_ofNat_of_zero_le h1.1
  obtain ⟨m, rfl⟩ := Int.eq_ofNat_of_zero_le h1.2.2.1
  obtain ⟨k, rfl⟩ := Int.eq_ofNat_of_zero_le h3
  have e : bsF n m k = ptrBytes n m k := if_pos hr
  have l16 := ptrBytes_len n m k
  have i1 := ptrBytes_at n m k (by omega)
  have i2 := ptrBytes_born n m k (by omega)
  have i3 := ptrBytes_sum n m k (by omega)
  have ho : okF (ptrBytes n m k) = true := ok_yes l16 (by rw [i1, i2, i3]; exact hr)
  obtain ⟨e1, e2, e3, e4⟩ := rd_yes ho
  rw [e]
  exact ⟨ho, by rw [e1, i1], by rw [e2, i2], by rw [e3, i3], e4, l16⟩
/-- A pointer that is read, as bytes again. -/
theorem back_bys {l : List UInt8} (h : okF l = true) : bsF (rdA l) (rdB l) (rdS l) = l ∧ bsC (rdA l) (rdB l) (rdS l) = 0 := by
  obtain ⟨e1, e2, e3, -⟩ := rd_yes h
  simp only [okF, Bool.and_eq_true, decide_eq_true_eq] at h
  rw [e1, e2, e3]
  exact ⟨(if_pos h.2).trans (ptrBytes_of h.1), if_pos h.2⟩
theorem bs_inj {a b s a' b' s' : Int} (h : IsPtr a b s) (h' : IsPtr a' b' s') (hr : qrightF a b s = true) (hr' : qrightF a' b' s' = true) : (bsF a b s == bsF a' b' s') = (a == a' && b == b' && s == s') := by
  obtain ⟨-, e1, e2, e3, -, -⟩ := back_ptr h hr
  obtain ⟨-, i1, i2, i3, -, -⟩ := back_ptr h' hr'
  by_cases he : bsF a b s = bsF a' b' s'
  · rw [he] at e1 e2 e3
    rw [he, ← i1.symm.trans e1, ← i2.symm.trans e2, ← i3.symm.trans e3]
    simp
  · have : ¬ (a = a' ∧ b = b' ∧ s = s') := fun hh => he (by rw [hh.1, hh.2.1, hh.2.2])
    rw [beq_eq_false_iff_ne.2 he]
    symm
    simp only [Bool.and_eq_false_iff, beq_eq_false_iff_ne]
    omega
end
end Go.Proofs.Ytdcegkeaopjbnaa
