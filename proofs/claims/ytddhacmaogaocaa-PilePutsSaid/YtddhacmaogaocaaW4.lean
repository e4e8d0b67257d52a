
/- Walks: the reference's sets of bools. -/
import Derived.Test.YtddhacmaogaocaaW3
import Derived.Deep.WholeRow
set_option maxRecDepth 10000
namespace Go.Proofs.Ytddhacmaogaocaa
open Go.RowKit
theorem buildArr : ∀ w, (Instr.build 97 #[]).run Try.prog w = .ok (.agg falses) w := by
  intro w
  exact run_build w _ _ _ (by kernel_rfl)
theorem sizeArr : (Try.prog.info? 97).map (·.size) = some 4096 := by kernel_rfl
theorem sizeArr' (S : Int → Bool) : (Try.prog.info? 97).map (·.size) = some (barr S).size := by rw [barr_size]; exact sizeArr
theorem barr_one (S : Int → Bool) : (barr S).all (·.oneCell') = true := by
  rw [Array.all_eq_true_iff_forall_mem]
  intro v hv
  simp only [barr, Array.mem_map] at hv
  obtain ⟨n, _, rfl⟩ := hv
  rfl
/-- A whole array of bools is stored over another. -/
theorem st_arr {ops : Array Oper} {rest : List Oper} {o : Oper} {a : Act} {w : World} {Q : Exit → Act → World → Prop} (hgd : o.guard = none) (x y : Operand) (ho : o.op = .store 97 x y)
    (g : Nat) (S T : Int → Bool) (hx : a.eval x = .pointer (some ⟨g, 0, none⟩)) (hy : a.eval y = .agg (barr T)) (hg : Blk w g 97 (barr S))
    (h : ∀ w', Blk w' g 97 (barr T) → w'.heap.size = w.heap.size → (∀ B, B ≤ g → Below B w w') → wpList Try.prog ops Q rest (a.put o.dst undef) w') : wpList Try.prog ops Q (o :: rest) a w :=
  wpList_store_row hgd _ x y ho g (barr T) hx hy 97 (barr S) hg (sizeArr' T) (by rw [barr_size, barr_size]) (barr_one T)
    (h _ (by unfold Blk at hg ⊢; simp [World.setRow, Array.getElem?_modify, hg]) (by simp) fun B hB => ⟨rfl, rfl, rfl, by simp, fun k hk => by
      simp only [World.setRow, Array.getElem?_modify]
      rw [if_neg (by omega)]⟩)
/-- A whole array of bools is loaded. -/
theorem ld_arr {ops : Array Oper} {rest : List Oper} {o : Oper} {a : Act} {w : World} {Q : Exit → Act → World → Prop} (hgd : o.guard = none) (x : Operand) (ho : o.op = .load 97 x)
    (g : Nat) (S : Int → Bool) (hx : a.eval x = .pointer (some ⟨g, 0, none⟩)) (hg : Blk w g 97 (barr S))
    (h : wpList Try.prog ops Q rest (a.put o.dst (.agg (barr S))) w) : wpList Try.prog ops Q (o :: rest) a w :=
  wpList_load_row hgd _ x ho g hx 97 (barr S) (0, 0) _ hg Try.underlying97 rfl (sizeArr' S) h
def noB : Int → Bool := fun _ => false

theorem noB_eq : (fun _ => false) = noB := rfl
theorem built_end {S : Int → Bool} {k : Nat} (hk : k ≤ 4096) {s n : Int} {r : List Sp} (h : buildR S k = (s, n) :: r) : 0 < k ∧ 0 ≤ s ∧ 0 ≤ n ∧ s + n ≤ k ∧ (s + n = k ↔ S ((k - 1 : Nat) : Int) = true) := by
  rcases k with _ | k
  · simp [buildR] at h
  · have hb := build_built S k (by omega)
    have hb' := build_built S (k + 1) hk
    have hin := (built_in (S := S) hk).1 (s, n) (by rw [h]; simp)
    have he := hb'.ends
    rw [h, List.reverse_cons, end_app] at he
    simp only [endF] at he
    refine ⟨by omega, hin.1, hin.2.1, by omega, ?_⟩
    simp only [Nat.add_sub_cancel]
    simp only [buildR] at h
    by_cases hS : S k = true
    · rw [if_pos hS] at h
      refine ⟨fun _ => hS, fun _ => ?_⟩
      rcases hR : buildR S k with _ | ⟨⟨s', n'⟩, r'⟩
      · rw [hR] at h
        simp only [addR, List.cons.injEq, Prod.mk.injEq] at h
        omega
      · rw [hR] at h
        by_cases e : s' + n' = k
        · rw [addR_hit e] at h
          simp only [List.cons.injEq, Prod.mk.injEq] at h
          omega
        · rw [addR_miss e] at h
          simp only [List.cons.injEq, Prod.mk.injEq] at h
          omega
    · rw [if_neg hS] at h
      have he := hb.ends
      rw [h, List.reverse_cons, end_app] at he
      simp only [endF] at he
      exact ⟨fun h => by omega, fun h => absurd h hS⟩

/-- What is in the first spans, and in the first m numbers of one more. -/
def memK (l : List Sp) (k : Nat) (s m n : Int) : Bool := memF (l.take k) n || inSp (s, m) n
end Go.Proofs.Ytddhacmaogaocaa
