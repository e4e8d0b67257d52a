
/- Walks: the device's small calls. -/
import Derived.Test.YtddhacmaogaocaaV2
import Derived.StillTailTactics
set_option maxRecDepth 10000
namespace Go.Proofs.Ytddhacmaogaocaa
open Go.RowKit

section
variable {w : World} {B n : Nat} {D : Dev} {pv : Value} {s : St}
theorem At.fields (h : At w B n D pv s) : w.cell? ⟨D.g, 0, none⟩ = some (.slice (some ⟨D.gs, 0, none⟩) n n) ∧ w.cell? ⟨D.g, 1, none⟩ = some (.slice (some ⟨D.gn, 0, none⟩) n n) ∧ w.cell? ⟨D.g, 2, none⟩ = some pv ∧
    w.cell? ⟨D.g, 3, none⟩ = some (.int .i64 s.ops) ∧ w.cell? ⟨D.g, 4, none⟩ = some (.int .i64 s.left) ∧ w.cell? ⟨D.g, 5, none⟩ = some (.bool s.dead) ∧ ∀ i, w.frozen? ⟨D.g, i, none⟩ = false :=
  ⟨h.dev.cell 0, h.dev.cell 1, h.dev.cell 2, h.dev.cell 3, h.dev.cell 4, h.dev.cell 5, h.dev.frozen⟩
/-- A field of the device is written. -/
theorem At.set_ops (h : At w B n D pv s) (x : Int) (hx : 0 ≤ x ∧ x ≤ 4611686018427387903) : At (w.setCell ⟨D.g, 3, none⟩ (.int .i64 x)) B n D pv { s with ops := x } := by
  have hg := h.dev.set_ 3 (.int .i64 x)
  have hc := (Chg.refl w (· = D.g)).setCell (p := ⟨D.g, 3, none⟩) (.inl rfl) (.int .i64 x)
  exact { h with
    dev := hg
    st := h.st.chg hc (blk_ne h.st h.dev (by decide))
    nw := h.nw.chg hc (blk_ne h.nw h.dev (by decide))
    pend := own_chg h.pend hc fun g hg => by
      obtain ⟨cs, hb⟩ := own_blk h.pend hg
      exact blk_ne hb h.dev (by decide)
    ops := hx }
theorem At.set_left (h : At w B n D pv s) (x : Int) (hx : I64 x) : At (w.setCell ⟨D.g, 4, none⟩ (.int .i64 x)) B n D pv { s with left := x } := by
  have hg := h.dev.set_ 4 (.int .i64 x)
  have hc := (Chg.refl w (· = D.g)).setCell (p := ⟨D.g, 4, none⟩) (.inl rfl) (.int .i64 x)
  exact { h with
    dev := hg
    st := h.st.chg hc (blk_ne h.st h.dev (by decide))
    nw := h.nw.chg hc (blk_ne h.nw h.dev (by decide))
    pend := own_chg h.pend hc fun g hg => by
      obtain ⟨cs, hb⟩ := own_blk h.pend hg
      exact blk_ne hb h.dev (by decide)
    left := hx }
theorem At.set_dead (h : At w B n D pv s) (x : Bool) : At (w.setCell ⟨D.g, 5, none⟩ (.bool x)) B n D pv { s with dead := x } := by
  have hg := h.dev.set_ 5 (.bool x)
  have hc := (Chg.refl w (· = D.g)).setCell (p := ⟨D.g, 5, none⟩) (.inl rfl) (.bool x)
  exact { h with
    dev := hg
    st := h.st.chg hc (blk_ne h.st h.dev (by decide))
    nw := h.nw.chg hc (blk_ne h.nw h.dev (by decide))
    pend := own_chg h.pend hc fun g hg => by
      obtain ⟨cs, hb⟩ := own_blk h.pend hg
      exact blk_ne hb h.dev (by decide) }
theorem Goes.field (w : World) (D : Dev) (pv : Value) (i : Nat) (u : Value) : Goes D w pv (w.setCell ⟨D.g, i, none⟩ u) pv :=
  ⟨(Chg.refl _ _).setCell (.inl (.inl rfl)) _, fun _ h => .inl h⟩

theorem count_any (h : At w B n D pv s) : Calls Try.prog 37 #[.pointer (some ⟨D.g, 0, none⟩)] w fun e w' => e = .returned (.tuple #[]) ∧ At w' B n D pv s.count ∧ Goes D w pv w' pv := by
  obtain ⟨h0, h1, h2, h3, h4, h5, hf⟩ := h.fields
  have HA := Lib.hid h; clear h
  obtain ⟨ho1, ho2⟩ := HA.out.ops
  by_cases hlt : s.ops < 4611686018427387903
  · have HS : Hid (s.count = { s with ops := s.ops + 1 }) := by unfold St.count; rw [if_pos hlt]; rfl
    go_enter Try.func37, Try.ntmps37
    go_wp2_with fail
    (try simp only [Exit.inBlock, Exit.then]); refine bodyPost_end (results_none rfl _ _ _) rfl ?_
    exact ⟨rfl, by rw [HS.out]; exact HA.out.set_ops _ (by omega), Goes.field _ _ _ _ _⟩
  · have HS : Hid (s.count = s) := by unfold St.count; rw [if_neg hlt]; rfl
    go_enter Try.func37, Try.ntmps37
    go_wp2_with fail
    (try simp only [Exit.inBlock, Exit.then]); refine bodyPost_end (results_none rfl _ _ _) rfl ?_
    exact ⟨rfl, by rw [HS.out]; exact HA.out, Goes.refl _ _ _⟩

theorem vhas_any (h : At w B n D pv s) (i : Int) : Calls Try.prog 30 #[.pointer (some ⟨D.g, 0, none⟩), .int .i64 i] w fun e w' => e = .returned (.bool (hasF n i)) ∧ w' = w := by
  obtain ⟨h0, _⟩ := h.fields
  clear h
  unfold hasF
  by_cases h1 : 0 ≤ i
  · by_cases h2 : i < n
    · have hd : decide (0 ≤ i ∧ i < (n : Int)) = true := by simp [h1, h2]
      rw [hd]
      go_enter Try.func30, Try.ntmps30
      go_wp2_with fail
      go_ret
      exact ⟨rfl, rfl⟩
    · have hd : decide (0 ≤ i ∧ i < (n : Int)) = false := by simp; omega
      rw [hd]
      go_enter Try.func30, Try.ntmps30
      go_wp2_with fail
      go_ret
      exact ⟨rfl, rfl⟩
  · have hd : decide (0 ≤ i ∧ i < (n : Int)) = false := by simp; omega
    rw [hd]
    go_enter Try.func30, Try.ntmps30
    go_wp2_with fail
    go_ret
    exact ⟨rfl, rfl⟩
theorem refuses_any (h : At w B n D pv s) : Calls Try.prog 45 #[.pointer (some ⟨D.g, 0, none⟩)] w fun e w' => e = .returned (.bool s.refuse.dead) ∧ At w' B n D pv s.refuse ∧ Goes D w pv w' pv := by
  obtain ⟨h0, h1, h2, h3, h4, h5, hf⟩ := h.fields
  have HA := Lib.hid h; clear h
  obtain ⟨hl1, hl2⟩ := HA.out.left
  rcases Int.lt_trichotomy s.left 0 with hlt | hlt | hlt
  · have HS : Hid (s.refuse = s) := by unfold St.refuse; rw [if_neg (by omega), if_neg (by omega)]; rfl
    rw [HS.out]
    have hb1 : (s.left == 0) = false := by rw [beq_eq_false_iff_ne]; omega
    go_enter Try.func45, Try.ntmps45
    go_wp2_with fail
    go_ret
    exact ⟨rfl, HA.out, Goes.refl _ _ _⟩
  · have HS : Hid (s.refuse = { s with dead := true }) := by unfold St.refuse; rw [if_pos hlt]; rfl
    rw [HS.out]
    have hb1 : (s.left == 0) = true := by rw [beq_iff_eq]; exact hlt
    clear hlt
    go_enter Try.func45, Try.ntmps45
    go_wp2_with fail
    go_ret
    exact ⟨rfl, HA.out.set_dead _, Goes.field _ _ _ _ _⟩
  · have HS : Hid (s.refuse = { s with left := s.left - 1 }) := by unfold St.refuse; rw [if_neg (by omega), if_pos hlt]; rfl
    rw [HS.out]
    have hb1 : (s.left == 0) = false := by rw [beq_eq_false_iff_ne]; omega
    go_enter Try.func45, Try.ntmps45
    go_wp2_with fail
    go_ret
    exact ⟨rfl, HA.out.set_left _ (by unfold I64; omega), Goes.field _ _ _ _ _⟩
end
end Go.Proofs.Ytddhacmaogaocaa
