/- Walks: Join, Cut, Both; the chapter's example. -/
import Derived.Test.YtckpjcimakeaeaaW8
namespace Go.Proofs.Ytckpjcimakeaeaa
open Go.RowKit

theorem own_slice {w : World} {base : Nat} {v : Value} {R : List Sp} (h : OwnR w base v R.reverse) : ∃ A c, v = .slice A R.length c ∧ Rd w w.heap.size A (spc R) ∧ R.length ≤ c := by
  obtain ⟨A, c, rfl, h1, h2⟩ := own_rd h
  rw [List.length_reverse] at h2 ⊢
  rw [List.reverse_reverse] at h1
  exact ⟨A, c, rfl, h1, h2⟩
/-- A call that answers a set in new memory. -/
def Gives (l : List Sp) (w : World) (e : Ending) (w' : World) : Prop := ∃ A c, e = .returned (.slice A l.length c) ∧ Rd w' w'.heap.size A (spc l) ∧ l.length ≤ c ∧ Below w.heap.size w w'
theorem gives_of {l : List Sp} {w w' : World} {e : Ending} {v : Value} (he : e = .returned v) (h : OwnR w' w.heap.size v l.reverse) (hb : Below w.heap.size w w') : Gives l w e w' := by
  obtain ⟨A, c, rfl, h1, h2⟩ := own_slice h
  exact ⟨A, c, he, h1, h2, hb⟩

theorem cut_ent (args : Array Value) (W : World) : Sem.run Try.prog (callFunc 36 args) W = .ok (.enter 36 args) W := by
  simp [callFunc, Try.func36, Try.f36]
theorem both_ent (args : Array Value) (W : World) : Sem.run Try.prog (callFunc 37 args) W = .ok (.enter 37 args) W := by
  simp [callFunc, Try.func37, Try.f37]

def joinS (l m : List Sp) : List Sp := canon fun x => memF l x || memF m x
def cutS (l m : List Sp) : List Sp := canon fun x => memF l x && !memF m x
def bothS (l m : List Sp) : List Sp := canon fun x => memF l x && memF m x

section
variable (A A' : Option Addr) (c c' : Nat) (l m : List Sp) (w : World) (hs : Rd w w.heap.size A (spc l)) (hr : rightF 0 l = true) (hs' : Rd w w.heap.size A' (spc m)) (hr' : rightF 0 m = true) (hc : l.length ≤ c) (hc' : m.length ≤ c')
include hs hr hs' hr' hc hc'
theorem join_any : Calls Try.prog 25 #[.slice A l.length c, .slice A' m.length c'] w (Gives (joinS l m) w) := by
  go_enter Try.func25, Try.ntmps25
  go_wp2_with (go_at_call 34; refine (pick_any 35 (fun x y => x || y) A A' c c' l m w hs hr hs' hr' hc hc' join_ent join_fn).mono ?_; rintro e w1 ⟨v, rfl, ho, hb⟩)
  go_ret
  exact gives_of rfl ho hb
theorem cut_any : Calls Try.prog 26 #[.slice A l.length c, .slice A' m.length c'] w (Gives (cutS l m) w) := by
  go_enter Try.func26, Try.ntmps26
  go_wp2_with (go_at_call 34; refine (pick_any 36 (fun x y => x && !y) A A' c c' l m w hs hr hs' hr' hc hc' cut_ent cut_fn).mono ?_; rintro e w1 ⟨v, rfl, ho, hb⟩)
  go_ret
  exact gives_of rfl ho hb
theorem both_any : Calls Try.prog 27 #[.slice A l.length c, .slice A' m.length c'] w (Gives (bothS l m) w) := by
  go_enter Try.func27, Try.ntmps27
  go_wp2_with (go_at_call 34; refine (pick_any 37 (fun x y => x && y) A A' c c' l m w hs hr hs' hr' hc hc' both_ent both_fn).mono ?_; rintro e w1 ⟨v, rfl, ho, hb⟩)
  go_ret
  exact gives_of rfl ho hb
end

theorem rd_new (w : World) (cs : Array Value) (t : TypeId) : Rd (w.alloc (.cells cs t)) (w.alloc (.cells cs t)).heap.size (some ⟨w.heap.size, 0, none⟩) cs.toList := fun _ =>
  ⟨w.heap.size, 0, rfl, by simp, fun j v hv => by rw [Nat.zero_add, (Blk.new w t cs).cell j]; simpa using hv⟩

def aliveL : List Sp := [(3, 3), (9, 1)]
theorem alive_canon : canon (inI [5, 3, 4, 9]) = aliveL := canon_eq (by decide) fun n _ _ => by
  rw [Bool.eq_iff_iff, mem_iff]
  simp [inI, aliveL]
  omega
theorem alive_of (g : Nat) (w : World) (hs : Rd w w.heap.size (some ⟨g, 0, none⟩) (ints [5, 3, 4, 9])) :
    Calls Try.prog 17 #[.slice (some ⟨g, 0, none⟩) 4 4] w (Gives aliveL w) := by
  refine (of_any _ 4 [5, 3, 4, 9] w hs (by simp)).mono ?_
  rintro e w' ⟨v, rfl, ho, hb⟩
  rw [alive_canon] at ho
  exact gives_of rfl ho hb
theorem alive_first (A : Option Addr) (c : Nat) (w : World) (hs : Rd w w.heap.size A (spc aliveL)) :
    Calls Try.prog 21 #[.slice A aliveL.length c, .int .i64 2] w fun e w' => e = .returned (.tuple #[.agg #[.int .i64 3, .int .i64 2], .bool true]) ∧ Below w.heap.size w w' :=
  first_any A c aliveL 2 w hs (by simp [aliveL])
theorem alive_same (A A' : Option Addr) (c c' : Nat) (w : World) (hs : Rd w w.heap.size A (spc aliveL)) (hs' : Rd w w.heap.size A' (spc aliveL)) :
    Calls Try.prog 16 #[.slice A aliveL.length c, .slice A' 2 c'] w fun e w' => e = .returned (.bool true) ∧ Below w.heap.size w w' := by
  refine (same_any A A' c c' aliveL aliveL w hs hs' (by simp [aliveL])).mono ?_
  rintro e w' ⟨rfl, hb⟩
  exact ⟨ret_bool (decide_eq_true rfl), hb⟩

set_option maxHeartbeats 400000 in
theorem alive_any (w : World) : Calls Try.prog 11 #[] w fun e w' => e = .returned (.bool true) ∧ Below w.heap.size w w' := by
  go_enter Try.func11, Try.ntmps11
  go_wp2_with fail
  refine (alive_of _ _ (rd_new w #[.int .i64 5, .int .i64 3, .int .i64 4, .int .i64 9] 3)).mono ?_
  rintro e w1 ⟨A, c, rfl, h1, hc, hb1⟩
  go_wp2_with fail
  refine (alive_first A c w1 h1).mono ?_
  rintro e w2 ⟨rfl, hb2⟩
  go_wp2_with fail
  have hb3 : Below w2.heap.size w2 ((w2.alloc (.cells #[.int .i64 3, .int .i64 2] 34)).alloc (.cells #[.int .i64 3, .int .i64 3, .int .i64 9, .int .i64 1] 34)) := ((Below.refl _ _).alloc (Nat.le_refl _) _).alloc (by simp) _
  have hr := rd_new (w2.alloc (.cells #[.int .i64 3, .int .i64 2] 34)) #[.int .i64 3, .int .i64 3, .int .i64 9, .int .i64 1] 34
  have hbl := (Blk.new w2 34 #[.int .i64 3, .int .i64 2]).below ((Below.refl (w2.heap.size + 1) _).alloc (by simp) (.cells #[.int .i64 3, .int .i64 3, .int .i64 9, .int .i64 1] 34)) (by omega)
  simp only [World.size_alloc] at hr
  have hsz2 := hb2.size
  have h2 := ((h1.below hb2).below (hb3.mono hsz2)).mono (B' := w2.heap.size + 1 + 1) (by omega)
  refine (alive_same A (some ⟨w2.heap.size + 1, 0, none⟩) c 2 _ (by simpa using h2) (by simpa [aliveL, spc] using hr)).mono ?_
  rintro e w5 ⟨rfl, hb5⟩
  have hbl5 := hbl.below hb5 (by simp; omega)
  have q0 := hbl5.cell 0
  have q1 := hbl5.cell 1
  simp only [List.getElem?_toArray, List.getElem?_cons_zero, List.getElem?_cons_succ] at q0 q1
  clear hr h2
  go_wp2_with fail
  go_ret
  refine ⟨rfl, ?_⟩
  have hb1' := ((Below.refl w.heap.size w).alloc (Nat.le_refl _) (.cells #[.int .i64 5, .int .i64 3, .int .i64 4, .int .i64 9] 3)).trans (hb1.mono (by simp))
  have s1 := hb1'.size
  exact ((hb1'.trans (hb2.mono s1)).trans (hb3.mono (by omega))).trans (hb5.mono (by simp; omega))

/-- A list without elements. -/
theorem count_nil (w : World) : Calls Try.prog 13 #[.slice none 0 0] w fun e w' => e = .returned (.int .i64 0) ∧ Below w.heap.size w w' := count_any none 0 [] w Rd.nil rfl
theorem right_nil (w : World) : Calls Try.prog 12 #[.slice none 0 0] w fun e w' => e = .returned (.bool true) ∧ Below w.heap.size w w' := right_any none 0 [] w Rd.nil (by simp [SpOk]) (by simp)
theorem list_nil (w : World) : Calls Try.prog 14 #[.slice none 0 0] w fun e w' => ∃ A c, e = .returned (.slice A 0 c) ∧ Below w.heap.size w w' := by
  refine (list_any none 0 [] w Rd.nil rfl (by simp [spF])).mono ?_
  rintro e w' ⟨v, rfl, ho, hb⟩
  obtain ⟨A, c, rfl, _⟩ := own_rd ho
  exact ⟨A, c, rfl, hb⟩

set_option maxHeartbeats 400000 in
theorem spanNames_any (w : World) : Calls Try.prog 3 #[] w fun e w' => e = .returned (.bool true) ∧ Below w.heap.size w w' := by
  go_enter Try.func3, Try.ntmps3
  go_wp2_with fail
  refine (alive_any _).mono ?_
  rintro e w1 ⟨rfl, hb1⟩
  go_wp2_with fail
  refine (right_nil _).mono ?_
  rintro e w2 ⟨rfl, hb2⟩
  go_wp2_with fail
  refine (count_nil _).mono ?_
  rintro e w3 ⟨rfl, hb3⟩
  go_wp2_with fail
  refine (list_nil _).mono ?_
  rintro e w4 ⟨A, c, rfl, hb4⟩
  go_wp2_with fail
  go_ret
  have s1 := hb1.size
  have s2 := hb2.size
  have s3 := hb3.size
  exact ⟨rfl, ((hb1.trans (hb2.mono s1)).trans (hb3.mono (by omega))).trans (hb4.mono (by omega))⟩
end Go.Proofs.Ytckpjcimakeaeaa
