/- SlogBack: true for every input. -/
import Derived.Test.YtklccgmhllpjkaaEJ
import Derived.Test.YtklccgmhllpjkaaD
import Derived.Test.YtklccgmhllpjkaaJ13
import Derived.Test.YtklccgmhllpjkaaJ20
namespace Go.Proofs.Ytklccgmhllpjkaa.slogBack
open Go.ChangeShapes Go.WideShapes Go.ChangeAt Go.RowKit
set_option maxRecDepth 100000 in
theorem lifted (os : Os) (started : os.Started) (H : Type) (enc : TypeId × Value → H) :
    ReturnsInHanded {} Try.checked os 9 .any (Rows.slogBackSpec.pre6 enc Try.prog Try.f9 Rows.slogBackRow.domain false) (Rows.slogBackSpec.post enc Try.prog Try.f9 false true false false) := by
  refine returnsInHanded_of_change_sized (C := Try.checked) Try.own started (by kernel_rfl) Try.func9
    (ChangeSpec.witness6 (enc := enc) (C := Try.checked) false ⟨#[], #[.slice none 0 0, .slice none 0 0, .slice none 0 0], []⟩ 8 (by kernel_rfl) (by kernel_rfl) (by kernel_rfl) (by kernel_rfl)) ?_
  intro W base args ds gs before hval0 hW _ hsz0 _
  have hsz : (DataW.weightsEach Try.prog (Try.f9.params.toList ++ Rows.slogBackSpec.plain.varTypes Try.prog) (ds ++ gs)).all (· ≤ reachBytes) = true := hsz0
  have hval : ∀ (j : Nat) t v, Try.f9.params[j]? = some t → args[j]? = some v → Value.okWide Try.prog W .any base t v := hval0
  have hW' := hW
  obtain ⟨p, q, hA0, hV, rfl, _, _⟩ := hW
  have hA : DataW.TrodAll enc Try.prog W 0 (fun _ => true) true Try.f9.params.toList args.toList ds p := hA0
  have hlt : ∀ x ∈ p, x.block < W.heap.size := fun x hx => hW'.lt x (List.mem_append_left _ hx)
  rw [Try.params9] at hA hval hsz
  obtain ⟨v0, vs0, d0, ds0, p0, q0, hargs, rfl, rfl, h0, r0⟩ := trodAll_cons hA
  obtain ⟨v1, vs1, d1, ds1, p1, q1, rfl, rfl, rfl, h1, r1⟩ := trodAll_cons r0
  obtain ⟨v2, vs2, d2, ds2, p2, q2, rfl, rfl, rfl, h2, r2⟩ := trodAll_cons r1
  obtain ⟨rfl, rfl, rfl⟩ := trodAll_nil r2
  obtain rfl : args = #[v0, v1, v2] := by cases args; simp_all
  obtain ⟨rfl, rfl⟩ := trodVars_none hV
  obtain ⟨A0, c0, l0, rfl, hR0, hO0, hc0, hN0, hs0⟩ := open_spans (hval 0 22 v0 rfl rfl) h0 (fun x hx => hlt x (by simp [hx]))
  have hL0 := hs0 (fun elems spare hd => sized_slice hsz (j := 0) (t := 22) rfl (by rw [hd]; rfl) Try.underlying22)
  obtain ⟨A1, c1, l1, rfl, hR1, hO1, hc1, hN1, hs1⟩ := open_spans (hval 1 22 v1 rfl rfl) h1 (fun x hx => hlt x (by simp [hx]))
  have hL1 := hs1 (fun elems spare hd => sized_slice hsz (j := 1) (t := 22) rfl (by rw [hd]; rfl) Try.underlying22)
  obtain ⟨A2, c2, l2, rfl, hR2, hO2, hc2, hN2, hs2⟩ := open_moves (hval 2 27 v2 rfl rfl) h2 (fun x hx => hlt x (by simp [hx]))
  have hL2 := hs2 (fun elems spare hd => sized_slice hsz (j := 2) (t := 27) rfl (by rw [hd]; rfl) Try.underlying27)
  refine (slogBack_any logCalls W A0 c0 l0 hR0 hO0 hc0 hN0 hL0 A1 c1 l1 hR1 hO1 hc1 hN1 hL1 A2 c2 l2 hR2 hO2 hc2 hN2 hL2).mono fun e W' ⟨he, hb⟩ => ?_
  exact ⟨_, he, law_post Try.laidOut Try.underlying4 rfl rfl (by rw [Try.params9]; intro t ht; simp at ht; first | (subst ht; exact ⟨by kernel_rfl, of_decide_eq_true (by kernel_rfl)⟩) | (rcases ht with rfl | rfl <;> exact ⟨by kernel_rfl, of_decide_eq_true (by kernel_rfl)⟩) | (rcases ht with rfl | rfl | rfl <;> exact ⟨by kernel_rfl, of_decide_eq_true (by kernel_rfl)⟩)) hW' rfl hb⟩

/-- The statement. -/
theorem proved : Rows.SlogBackSaid :=
  OpenClaim.holds_of_wide 9 Try.f9 rfl rfl rfl rfl rfl rfl rfl ⟨rfl, rfl, rfl, rfl, rfl⟩ rfl rfl rfl rfl rfl (by kernel_rfl) Try.func9 (by kernel_rfl)
    (of_decide_eq_true (by kernel_rfl)) (by unfold Func.isWrapper; first | (rw [if_pos (by decide +kernel)]; kernel_rfl) | (rw [if_neg (by decide +kernel)]; exact ⟨rfl, rfl⟩))
    (fun os started H enc _ => lifted os started H enc)
end Go.Proofs.Ytklccgmhllpjkaa.slogBack
