/- Walks: the chapter's examples; the laws on names and on numbers as bytes. -/
import Derived.Test.YtccmannmbldghaaF13
import Derived.Lib.SlBytesConst
namespace Go.Proofs.Ytccmannmbldghaa
open Go.RowKit

theorem rd_new (w : World) (cs : Array Value) (t : TypeId) : Rd (w.alloc (.cells cs t)) (w.alloc (.cells cs t)).heap.size (some ⟨w.heap.size, 0, none⟩) cs.toList := fun _ =>
  ⟨w.heap.size, 0, rfl, by simp, fun j v hv => by rw [Nat.zero_add, (Blk.new w t cs).cell j]; simpa using hv⟩

theorem rd_newf (w : World) (cs : Array Value) (t : TypeId) (fr : Nat × Nat) : Rd (w.alloc (.cells cs t fr)) (w.alloc (.cells cs t fr)).heap.size (some ⟨w.heap.size, 0, none⟩) cs.toList := fun _ =>
  ⟨w.heap.size, 0, rfl, by simp, fun j v hv => by rw [Nat.zero_add, cell_of_row _ _ j cs t fr (heap_alloc_new w _)]; simpa using hv⟩

theorem alive_put (A A' : Option Addr) (c c' : Nat) (w : World) (hs : Rd w w.heap.size A [.int .i64 2]) (ht : Rd w w.heap.size A' [.int .u64 258]) :
    Calls Try.prog 12 #[.slice A 1 c, .slice A' 1 c'] w fun e w' => ∃ A1 c1, e = .returned (.tuple #[.slice A1 2 c1, .int .i64 0]) ∧ Rd w' w'.heap.size A1 (bys [2, 1]) ∧ Below w.heap.size w w' := by
  refine (put_any A A' c c' [2] [258] w hs ht (by simp) (by simp)).mono ?_
  rintro e w' ⟨A1, c1, he, h1, _, hb⟩
  exact ⟨A1, c1, he, h1, hb⟩
theorem alive_joinF : joinF [[97, 98]] = some [1, 0, 2, 0, 97, 98] := by decide
theorem alive_join (A A' : Option Addr) (c c' : Nat) (w : World) (hs : Rd w w.heap.size A [.slice A' 2 c']) (ht : Rd w w.heap.size A' (bys [97, 98])) (hc : 2 ≤ c') :
    Calls Try.prog 16 #[.slice A 1 c] w fun e w' => ∃ A1 c1, e = .returned (.tuple #[.slice A1 6 c1, .int .i64 0]) ∧ Rd w' w'.heap.size A1 (bys [1, 0, 2, 0, 97, 98]) ∧ Below w.heap.size w w' := by
  have h := join_any A c [(A', c', [97, 98])] w hs (fun t h => by rw [List.mem_singleton] at h; subst h; exact ⟨ht, hc⟩)
  rw [show joinF (byt [(A', c', [97, 98])]) = some [1, 0, 2, 0, 97, 98] from alive_joinF] at h
  refine h.mono ?_
  rintro e w' ⟨A1, c1, he, h1, _, hb⟩
  exact ⟨A1, c1, he, h1, hb⟩

set_option maxHeartbeats 1000000 in
theorem alive_any (w : World) : Calls Try.prog 11 #[] w fun e w' => e = .returned (.bool true) ∧ Below w.heap.size w w' := by
  have kc := fun (w : World) (C : Array Value) (n c : Nat) => Lib.run_convert_bytes_const (P := Try.prog) w 26 5 C n c Try.underlying26 Try.underlying5
  go_enter Try.func11, Try.ntmps11
  go_wp2_with fail
  have hr2 := (rd_new w #[.int .i64 2] 3).below ((Below.refl _ _).alloc (Nat.le_refl _) (.cells #[.int .u64 258] 52))
  have hr3 := rd_new (w.alloc (.cells #[.int .i64 2] 3)) #[.int .u64 258] 52
  simp only [World.size_alloc] at hr2 hr3
  refine (alive_put _ _ _ _ _ (hr2.mono (by simp)) (by simpa using hr3)).mono ?_
  rintro e w1 ⟨A1, c1, rfl, h1, hb1⟩
  have hb1' := (((Below.refl w.heap.size w).alloc (Nat.le_refl _) (.cells #[.int .i64 2] 3)).alloc (by simp) (.cells #[.int .u64 258] 52)).trans (hb1.mono (by simp; omega))
  clear hb1 hr2 hr3
  go_wp2_with fail
  have hb2 : Below w1.heap.size w1 ((w1.alloc (.cells #[.int .u8 97, .int .u8 98] 5 (2, 3))).alloc (.cells #[.slice (some ⟨w1.heap.size, 0, none⟩) 2 2] 26)) := ((Below.refl _ _).alloc (Nat.le_refl _) _).alloc (by simp) _
  have hr2 := (rd_newf w1 #[.int .u8 97, .int .u8 98] 5 (2, 3)).below ((Below.refl _ _).alloc (Nat.le_refl _) (.cells #[.slice (some ⟨w1.heap.size, 0, none⟩) 2 2] 26))
  have hr3 := rd_new (w1.alloc (.cells #[.int .u8 97, .int .u8 98] 5 (2, 3))) #[.slice (some ⟨w1.heap.size, 0, none⟩) 2 2] 26
  simp only [World.size_alloc] at hr2 hr3
  refine (alive_join _ _ _ _ _ (by simpa using hr3) (hr2.mono (by simp)) (by omega)).mono ?_
  rintro e w2 ⟨A2, c2, rfl, h2, hb3⟩
  have hb4 := hb2.trans (hb3.mono (by simp; omega))
  have hk1 : (convert 26 9 (.slice A1 2 c1)).run Try.prog w2 = .ok (.string (strF [2, 1])) w2 := conv_bytes (c := c1) (h1.below hb4)
  have hk2 : (convert 26 9 (.slice A2 6 c2)).run Try.prog w2 = .ok (.string (strF [1, 0, 2, 0, 97, 98])) w2 := conv_bytes (c := c2) h2
  have he1 : ((strF [2, 1]).toList == [2, 1]) = true := by rw [strF_list]; rfl
  have he2 : ((strF [1, 0, 2, 0, 97, 98]).toList == [1, 0, 2, 0, 97, 98]) = true := by rw [strF_list]; rfl
  have hb5 := Lib.hid (hb1'.trans (hb4.mono hb1'.size))
  clear hb1' hb2 hb3 hb4 hr2 hr3 h1 h2
  go_wp2_with fail
  go_ret
  exact ⟨rfl, hb5.out⟩

theorem get_none (A : Option Addr) (c : Nat) (w : World) (hs : Rd w w.heap.size A [.int .u8 1]) (hc : 1 ≤ c) :
    Calls Try.prog 10 #[.slice none 0 0, .slice A 1 c] w fun e w' => ∃ A1 c1, e = .returned (.tuple #[.slice A1 0 c1, .int .i64 21]) ∧ Below w.heap.size w w' := by
  refine (get_any none A 0 c [] [1] w Rd.nil hs hc (by simp)).mono ?_
  rintro e w' ⟨A1, c1, he, h1, _, hb⟩
  exact ⟨A1, c1, he, hb⟩
set_option maxHeartbeats 400000 in
theorem fieldNames_any (w : World) : Calls Try.prog 3 #[] w fun e w' => e = .returned (.bool true) ∧ Below w.heap.size w w' := by
  go_enter Try.func3, Try.ntmps3
  go_wp2_with fail
  refine (get_none _ _ _ (rd_new w #[.int .u8 1] 5) (by omega)).mono ?_
  rintro e w1 ⟨A1, c1, rfl, hb1⟩
  have hb2 := Lib.hid (((Below.refl w.heap.size w).alloc (Nat.le_refl _) (.cells #[.int .u8 1] 5)).trans (hb1.mono (by simp)))
  clear hb1
  go_wp2_with fail
  refine (alive_any _).mono ?_
  rintro e w2 ⟨rfl, hb3⟩
  have hb4 := Lib.hid (hb2.out.trans (hb3.mono hb2.out.size))
  clear hb3
  go_wp2_with fail
  go_ret
  exact ⟨rfl, hb4.out⟩
end Go.Proofs.Ytccmannmbldghaa
