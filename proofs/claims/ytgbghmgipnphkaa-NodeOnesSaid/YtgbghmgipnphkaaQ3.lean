
/- Walks: a pointer as bytes, the program's and the reference's. -/
import Derived.Test.YtgbghmgipnphkaaQ2
import Derived.Deep.RegionHeld3
set_option maxRecDepth 10000
namespace Go.Proofs.Ytgbghmgipnphkaa
open Go.RowKit

/-- A pointer's bytes. -/
def ptrBytes (n b s : Nat) : List UInt8 := bytesF 4 n ++ (bytesF 8 b ++ bytesF 4 s)
theorem ptrBytes_len (n b s : Nat) : (ptrBytes n b s).length = 16 := by simp [ptrBytes, bytesF_len]
theorem put_ptr {n b s : Nat} (hn : n < 4294967296) (hb : b < 18446744073709551616) (hs : s < 4294967296) : putF [4, 8, 4] [n, b, s] = some (ptrBytes n b s) := by
  have e4 : (256 : Nat) ^ (4 : Int).toNat = 4294967296 := by decide
  have e8 : (256 : Nat) ^ (8 : Int).toNat = 18446744073709551616 := by decide
  unfold putF putF putF putF
  rw [e4, e8, if_pos ⟨by omega, by omega, hn⟩, if_pos ⟨by omega, by omega, hb⟩, if_pos ⟨by omega, by omega, hs⟩]
  simp [ptrBytes]
theorem widths_any (w : World) : Calls Try.prog 27 #[] w fun e w' => e = .returned (.slice (some ⟨w.heap.size, 0, none⟩) 3 3) ∧ w' = w.alloc (.cells #[.int .i64 4, .int .i64 8, .int .i64 4] 3) := by
  go_enter Try.func27, Try.ntmps27
  go_wp2_with fail
  go_ret
  exact ⟨rfl, rfl⟩
theorem widths_rd {w w1 : World} (h : Below (w.alloc (.cells #[.int .i64 4, .int .i64 8, .int .i64 4] 3)).heap.size (w.alloc (.cells #[.int .i64 4, .int .i64 8, .int .i64 4] 3)) w1) : Rd w1 w1.heap.size (some ⟨w.heap.size, 0, none⟩) (wds [4, 8, 4]) :=
  ((rd_new w #[.int .i64 4, .int .i64 8, .int .i64 4] 3).below h).mono h.size
theorem put_yes {n b s : Nat} (hn : n < 4294967296) (hb : b < 18446744073709551616) (hs : s < 4294967296) (w : World) (A A' : Option Addr) (c c' : Nat) (h1 : Rd w w.heap.size A (wds [4, 8, 4])) (h2 : Rd w w.heap.size A' (uns [n, b, s])) :
    Calls Try.prog 26 #[.slice A 3 c, .slice A' 3 c'] w fun e w' => ∃ A2 c2, e = .returned (.tuple #[.slice A2 16 c2, .int .i64 0]) ∧ Rd w' w'.heap.size A2 (bys (ptrBytes n b s)) ∧ 16 ≤ c2 ∧ Below w.heap.size w w' := by
  refine (put_any A A' c c' [4, 8, 4] [n, b, s] w h1 h2 ?_ (by simp)).mono ?_
  · intro m hm
    simp only [List.mem_cons, List.not_mem_nil, or_false] at hm
    omega
  · rintro e w' ⟨A2, c2, he, h3, h4, h5⟩
    rw [put_ptr hn hb hs] at he h3 h4
    simp only [Option.getD_some, ptrBytes_len] at he h3 h4
    exact ⟨A2, c2, he, h3, h4, h5⟩
theorem rd_first (w : World) (cs : Array Value) (t : TypeId) (o : Obj) : Rd ((w.alloc (.cells cs t)).alloc o).drew ((w.alloc (.cells cs t)).alloc o).drew.heap.size (some ⟨w.heap.size, 0, none⟩) cs.toList :=
  ((rd_new w cs t).below (((Below.refl _ _).alloc (Nat.le_refl _) o).drew)).mono (by simp)
theorem rd_second (w : World) (cs : Array Value) (t : TypeId) (o : Obj) : Rd ((w.alloc o).alloc (.cells cs t)).drew ((w.alloc o).alloc (.cells cs t)).drew.heap.size (some ⟨w.heap.size + 1, 0, none⟩) cs.toList := by
  have h := (rd_new (w.alloc o) cs t).below (Below.refl _ _).drew
  simpa using h
/-- The numbers of a pointer, as the program lays them out. -/
abbrev numo (n b s : Nat) : Array Value := #[.int .u64 (IntKind.u64.wrap (n : Int)), .int .u64 b, .int .u64 (IntKind.u64.wrap (s : Int))]
theorem numo_eq {n b s : Nat} (hn : n < 4294967296) (hs : s < 4294967296) : (numo n b s).toList = uns [n, b, s] := by
  have h1 : IntKind.u64.wrap (n : Int) = n := by simp [IntKind.wrap, IntKind.signed, IntKind.bits]; omega
  have h2 : IntKind.u64.wrap (s : Int) = s := by simp [IntKind.wrap, IntKind.signed, IntKind.bits]; omega
  simp [uns, h1, h2]
/-- What a pointer is made of. -/
structure IsPtr (a b s : Int) : Prop where
  a0 : -9223372036854775808 ≤ a
  a1 : a ≤ 9223372036854775807
  b0 : 0 ≤ b
  b1 : b < 18446744073709551616
  s0 : 0 ≤ s
  s1 : s < 4294967296
theorem right_at {a b s : Int} (h : IsPtr a b s) (hr : rightF a b s = true) : 0 ≤ a ∧ a ≤ 1023 ∧ 0 ≤ b ∧ b ≤ 281474976710655 := by
  have := h.b0
  simp only [rightF, holeF, canF, Bool.or_eq_true, Bool.and_eq_true, beq_iff_eq, decide_eq_true_eq] at hr
  omega
theorem bytes_no {a b s : Int} (hr : rightF a b s = false) (w : World) :
    Calls Try.prog 20 #[ptv a b s] w fun e w' => e = .returned (.tuple #[.slice none 0 0, .int .i64 51]) ∧ Below w.heap.size w w' := by
  have right := right_any a b s
  rw [hr] at right
  have H := Lib.hid right
  clear right
  go_enter Try.func20, Try.ntmps20
  go_wp2_with (go_at_call 18; refine (H.out _).mono ?_; rintro e w1 ⟨rfl, hb1⟩)
  have hb := (Below.refl w.heap.size w).trans ((((Below.refl w.heap.size w).alloc (by omega) _).trans (hb1.mono (by simp))))
  go_ret2
  exact ⟨rfl, hb⟩
theorem rbytes_no {a b s : Int} (h : IsPtr a b s) (hr : rightF a b s = false) (w : World) :
    Calls Try.prog 21 #[ptv a b s] w fun e w' => e = .returned (.tuple #[.slice none 0 0, .int .i64 51]) ∧ Below w.heap.size w w' := by
  have right := rright_any a b s h.b0
  rw [hr] at right
  have H := Lib.hid right
  clear right
  go_enter Try.func21, Try.ntmps21
  go_wp2_with (go_at_call 28; refine (H.out _).mono ?_; rintro e w1 ⟨rfl, hb1⟩)
  have hb := (Below.refl w.heap.size w).trans ((((Below.refl w.heap.size w).alloc (by omega) _).trans (hb1.mono (by simp))))
  go_ret2
  exact ⟨rfl, hb⟩
theorem below_two {w w1 w3 : World} {o o' : Obj} (hb : Below w.heap.size w w1) (h : Below ((w1.alloc o).alloc o').drew.heap.size ((w1.alloc o).alloc o').drew w3) : Below w.heap.size w w3 :=
  (((hb.alloc hb.size o).alloc (by have := hb.size; simp; omega) o').drew).trans (h.mono (by have := hb.size; simp; omega))
theorem bytes_yes {n b s : Nat} (hr : rightF n b s = true) (hn : n ≤ 1023) (hb : b ≤ 281474976710655) (hs : s < 4294967296) (w : World) :
    Calls Try.prog 20 #[ptv n b s] w fun e w' => ∃ A2 c2, e = .returned (.tuple #[.slice A2 16 c2, .int .i64 0]) ∧ Rd w' w'.heap.size A2 (bys (ptrBytes n b s)) ∧ 16 ≤ c2 ∧ Below w.heap.size w w' := by
  have right := right_any n b s
  rw [hr] at right
  have H := Lib.hid right
  have HW := Lib.hid widths_any
  have HN := Lib.hid (numo_eq (n := n) (b := b) (s := s) (by omega) (by omega))
  have HP := Lib.hid (put_yes (n := n) (b := b) (s := s) (by omega) (by omega) (by omega))
  have hn' : (n : Int) ≤ 1023 := by omega
  have hb' : (b : Int) ≤ 281474976710655 := by omega
  have hs' : (s : Int) ≤ 4294967295 := by omega
  clear right hr hn hb hs
  go_enter Try.func20, Try.ntmps20
  go_wp2_with (go_at_call 18; refine (H.out _).mono ?_; rintro e w1 ⟨rfl, hb1⟩; obtain ⟨hc0, hc1, hc2⟩ := ptr_here hb1)
  have hb := (Below.refl w.heap.size w).trans ((((Below.refl w.heap.size w).alloc (by omega) _).trans (hb1.mono (by simp))))
  have hlt : w.heap.size < w1.heap.size := by have := hb1.size; simp at this; omega
  clear hb1
  go_region_held3 (fun w' => w'.cell? ⟨w.heap.size, 0, none⟩ = some (.int .i64 n) ∧ w'.cell? ⟨w.heap.size, 1, none⟩ = some (.int .u64 b) ∧ w'.cell? ⟨w.heap.size, 2, none⟩ = some (.int .u32 s))
    (first
      | go_keep
      | (go_split_ands
         refine ⟨?_, ?_, ?_⟩
         · (refine Eq.trans (hb3.cell (by simp; omega)) ?_; assumption)
         · (refine Eq.trans (hb3.cell (by simp; omega)) ?_; assumption)
         · (refine Eq.trans (hb3.cell (by simp; omega)) ?_; assumption)))
    (first
      | (go_at_call 27; refine (HW.out _).mono ?_; rintro e w2 ⟨rfl, rfl⟩)
      | (go_at_call 26; refine (HP.out _ _ _ _ _ (by first | exact rd_first _ _ _ _ | exact rd_second _ _ _ _) (by first | exact HN.out ▸ rd_first _ _ _ _ | exact HN.out ▸ rd_second _ _ _ _)).mono ?_; rintro e w3 ⟨A2, c2, rfl, hA2, hc2, hb3⟩))
  all_goals (go_wp2_with fail)
  all_goals go_ret2
  all_goals exact ⟨A2, c2, rfl, hA2, hc2, below_two hb hb3⟩
/-- A row of the call's own stays where another grows. -/
theorem own_apart {w w' : World} {base e size n : Nat} {v : Value} {xs : List Value} {b : Option Nat} (h : w.ownsRow base e size v n xs) (hg : w.grownBy w' b) (hne : ∀ k, v.ownBlock = some k → b ≠ some k) : w'.ownsRow base e size v n xs := by
  refine ⟨h.1, ?_⟩
  rcases h.2 with h0 | ⟨g, cap, cur, rfl, hbg, hgg, hrest⟩
  · exact .inl h0
  · refine .inr ⟨g, cap, cur, rfl, hbg, ?_, hrest⟩
    have hlt : g < w.heap.size := (h.lt g rfl).2
    exact (hg.block g hlt (fun e => hne g rfl e.symm)).trans hgg
end Go.Proofs.Ytgbghmgipnphkaa
