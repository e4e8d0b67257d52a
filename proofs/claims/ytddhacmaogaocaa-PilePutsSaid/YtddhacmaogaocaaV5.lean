
/- Walks: Read. -/
import Derived.Test.YtddhacmaogaocaaV4
set_option maxRecDepth 10000
namespace Go.Proofs.Ytddhacmaogaocaa
open Go.RowKit
section
variable {w : World} {B n : Nat} {D : Dev} {pv : Value} {s : St}
/-- Behind a block of the call's own and a step of the device. -/
theorem Goes.behind {o : Obj} {w' : World} {pv' : Value} (g : Goes D (w.alloc o) pv w' pv') : Goes D w pv w' pv' :=
  ⟨((Chg.refl w (D.own pv)).alloc o).trans g.chg fun _ _ h => h, fun k hk => by
    rcases g.row k hk with h1 | h1
    · exact .inl h1
    · exact .inr (by simp at h1; omega)⟩
theorem read_any (h : At w B n D pv s) (i : Int) : Calls Try.prog 25 #[.pointer (some ⟨D.g, 0, none⟩), .int .i64 i] w fun e w' =>
    e = .returned (.tuple #[.agg (s.read n i).1.cs.toArray, .int .i64 (s.read n i).2]) ∧ At w' B n D pv s.count ∧ Goes D w pv w' pv := by
  have hz : ∀ w, Sem.run Try.prog (zeroValue 23) w = .ok (.agg zsec.cs.toArray) w := zeroSec
  have hbd : ∀ w, (Instr.build 23 #[]).run Try.prog w = .ok (.agg zsec.cs.toArray) w := buildZ
  have ha := h.alloc (.cells zsec.cs.toArray 23)
  have hfar := Lib.hid h.new_far
  have HG : ∀ w' pv', Hid (Goes D (w.alloc (.cells zsec.cs.toArray 23)) pv w' pv' → Goes D w pv w' pv') := fun _ _ g => g.behind
  have HA := Lib.hid ha
  clear h ha
  have hbl := Lib.hid (Blk.new w 23 zsec.cs.toArray)
  have HL := Lib.hid (show w.heap.size < (w.alloc (.cells zsec.cs.toArray 23)).heap.size by simp)
  generalize hg0 : w.heap.size = g0 at *
  have HC : Hid (s.count.dead = s.dead ∧ s.count.nw = s.nw) := ⟨rfl, rfl⟩
  obtain ⟨x, er, hx⟩ : ∃ x er, s.read n i = (x, er) := ⟨_, _, rfl⟩
  rw [hx]
  have HX := Lib.hid hx; clear hx
  go_enter Try.func25, Try.ntmps25
  go_wp2_with fail
  refine (count_any HA.out).mono ?_
  rintro e w1 ⟨rfl, hA1, hG1⟩
  have hb1 := Lib.hid (hbl.out.chg hG1.chg hfar.out)
  have hG2 := Lib.hid ((HG _ _).out hG1)
  have hA := Lib.hid hA1
  clear HA hbl hG1 HG HL
  obtain ⟨_, h1, _, _, _, h5, _⟩ := hA1.fields
  rw [HC.out.1] at h5
  clear hA1
  go_wp2_with fail
  refine (vhas_any hA.out _).mono ?_
  rintro e w1 ⟨rfl, rfl⟩
  have fin : ∀ (x : Sec) (w2 : World), Hid (Hid (w2 = w1.setCells g0 0 x.cs) → Blk w2 g0 23 x.cs.toArray ∧ At w2 B n D pv s.count ∧ Goes D w pv w2 pv) := fun x w2 hw => by
    have hw := hw.out
    have hO : ∀ k, D.own pv k → ¬ (k = g0) := fun k hk e => hfar.out (e ▸ hk)
    have hc : Chg w1 w2 (· = g0) := by rw [hw]; exact Chg.setCells (O := (· = g0)) (.inl rfl) _ _ (Chg.refl _ _)
    refine ⟨by rw [hw]; exact hb1.out.secAll x, hA.out.chg hc hO, hG2.out.chg.trans hc fun k hk e => ?_, hG2.out.row⟩
    subst e
    omega
  by_cases h1 : hasF n i = true
  · rw [h1]
    have h1' := h1
    unfold hasF at h1'
    rw [decide_eq_true_iff] at h1'
    obtain ⟨hi0, hin⟩ := h1'
    obtain ⟨k, rfl⟩ := Int.eq_ofNat_of_zero_le hi0
    have hR := Lib.hid (hA.out.nw_at k (by omega))
    rw [HC.out.2] at hR
    cases hd : s.dead with
    | true =>
      rw [hd] at h5
      have hx := HX.out
      rw [St.read, if_pos h1, if_pos hd, Prod.mk.injEq] at hx
      obtain ⟨rfl, rfl⟩ := hx
      clear h1 hR HX
      go_wp2_with (with_reducible refine st_sec rfl _ _ rfl g0 0 zsec rfl rfl hb1.out.secHas ?_; intro w2 hw2)
      obtain ⟨hb2, hA2, hG3⟩ := (fin zsec w2).out hw2
      exact bodyPost_ret (results_row_tmp rfl _ _ _ _ _ _ _ rfl hb2 Try.underlying23 rfl (sizeSec'' zsec)) rfl ⟨rfl, hA2, hG3⟩
    | false =>
      rw [hd] at h5
      have hx := HX.out
      rw [St.read, if_pos h1, if_neg (by rw [hd]; simp), Prod.mk.injEq, Int.toNat_natCast] at hx
      obtain ⟨hx, rfl⟩ := hx
      rw [hx] at hR
      clear h1 HX hx
      go_wp2_with (first
        | (with_reducible refine ld_sec rfl _ rfl D.gn (k * 128) x rfl hR.out ?_)
        | (with_reducible refine st_sec rfl _ _ rfl g0 0 x rfl rfl hb1.out.secHas ?_; intro w2 hw2))
      obtain ⟨hb2, hA2, hG3⟩ := (fin x w2).out hw2
      exact bodyPost_ret (results_row_tmp rfl _ _ _ _ _ _ _ rfl hb2 Try.underlying23 rfl (sizeSec'' x)) rfl ⟨rfl, hA2, hG3⟩
  · have hf : hasF n i = false := by simpa using h1
    rw [hf]
    have hx := HX.out
    rw [St.read, if_neg h1, Prod.mk.injEq] at hx
    obtain ⟨rfl, rfl⟩ := hx
    clear h1 HX
    go_wp2_with (with_reducible refine st_sec rfl _ _ rfl g0 0 zsec rfl rfl hb1.out.secHas ?_; intro w2 hw2)
    obtain ⟨hb2, hA2, hG3⟩ := (fin zsec w2).out hw2
    exact bodyPost_ret (results_row_tmp rfl _ _ _ _ _ _ _ rfl hb2 Try.underlying23 rfl (sizeSec'' zsec)) rfl ⟨rfl, hA2, hG3⟩
end
end Go.Proofs.Ytddhacmaogaocaa
