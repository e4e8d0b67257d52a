
/- Sets as they are handed on from call to call. -/
import Derived.Test.YtddhacmaogaocaaW9
import Derived.Laws.AppendOwnNone
set_option maxRecDepth 10000
namespace Go.Proofs.Ytddhacmaogaocaa
open Go.RowKit

structure SetAt (w : World) (A : Option Addr) (c : Nat) (l : List Sp) : Prop where
  rd : Rd w w.heap.size A (spc l)
  right : rightF 0 l = true
  cap : l.length ≤ c
theorem SetAt.later {w w' : World} {A : Option Addr} {c : Nat} {l : List Sp} (h : SetAt w A c l) (hb : Below w.heap.size w w') : SetAt w' A c l := ⟨(h.rd.below hb).mono hb.size, h.right, h.cap⟩
theorem below_next {w0 w w' : World} (h : Below w0.heap.size w0 w) (k : Below w.heap.size w w') : Below w0.heap.size w0 w' := h.trans (k.mono h.size)

/-- A call that answers a set in new memory, and leaves what lay. -/
def GivesS (l : List Sp) (w : World) (e : Ending) (w' : World) : Prop := ∃ A c, e = .returned (.slice A l.length c) ∧ SetAt w' A c l ∧ Below w.heap.size w w'
theorem gives_set {S : Int → Bool} {w w' : World} {e : Ending} (h : Gives (canon S) w e w') : GivesS (canon S) w e w' := by
  obtain ⟨A, c, he, h1, h2, hb⟩ := h
  exact ⟨A, c, he, ⟨h1, canon_right S, h2⟩, hb⟩
theorem joinS_right (l m : List Sp) : rightF 0 (joinS l m) = true := canon_right _
theorem cutS_right (l m : List Sp) : rightF 0 (cutS l m) = true := canon_right _
theorem bothS_right (l m : List Sp) : rightF 0 (bothS l m) = true := canon_right _
theorem len_le {l : List Sp} (h : rightF 0 l = true) : (l.length : Int) ≤ 4097 := by have := right_len (by omega) (by omega) h; omega

section
variable {A A' : Option Addr} {c c' : Nat} {l m : List Sp} {w : World}
theorem right_set (h : SetAt w A c l) : Calls Try.prog 49 #[.slice A l.length c] w fun e w' => e = .returned (.bool true) ∧ Below w.heap.size w w' := by
  have h1 := right_any A c l w h.rd (right_ok (by omega) h.right) (by have := len_le h.right; omega)
  rw [h.right] at h1
  exact h1
theorem has_set (h : SetAt w A c l) (y : Int) : Calls Try.prog 34 #[.slice A l.length c, .int .i64 y] w fun e w' => e = .returned (.bool (memF l y)) ∧ Below w.heap.size w w' := has_any A c l y w h.rd h.right
theorem of_set {L : List Int} (hs : Rd w w.heap.size A (ints L)) (hl : L.length ≤ 4611686018427387903) : Calls Try.prog 50 #[.slice A L.length c] w (GivesS (canon (inI L)) w) :=
  (of_any A c L w hs hl).mono fun _ _ ⟨_, he, ho, hb⟩ => gives_set (gives_of he ho hb)
/-- Numbers in new memory. -/
def GivesI (L : List Int) (w : World) (e : Ending) (w' : World) : Prop := ∃ A c, e = .returned (.slice A L.length c) ∧ Rd w' w'.heap.size A (ints L) ∧ Below w.heap.size w w'
end

theorem addr_plain (b off j : Nat) : (⟨b, off, none⟩ : Addr).add j = ⟨b, off + j, none⟩ := by unfold Addr.add; split <;> simp_all
/-- append of a whole list of numbers, nil or not. -/
theorem app_ints {ops : Array Oper} {rest : List Oper} {o : Oper} {a : Act} {w : World} {Q : Exit → Act → World → Prop} (hgd : o.guard = none) (s x : Nat)
    (ho : o.op = .call { callee := .builtin .append, args := #[.tmp s, .tmp x], argTypes := #[93, 93] })
    (base : Nat) (v : Value) (l0 : List Int) (hs : a.eval (.tmp s) = v) (hown : OwnI w base v l0) (A : Option Addr) (c : Nat) (l : List Int)
    (hx : a.eval (.tmp x) = .slice A l.length c) (hr : Rd w w.heap.size A (ints l)) (hN : A = none → c = 0) (hbase : base ≤ w.heap.size) (hR : (l0.length + l.length) * 8 ≤ 140737488355328)
    (h : ∀ v' w', OwnI w' base v' (l0 ++ l) → w.grownBy w' v.ownBlock → wpList Try.prog ops Q rest (a.put o.dst v') w') :
    wpList Try.prog ops Q (o :: rest) a w := by
  obtain ⟨i0, hi0, hz0, hz1, hz2⟩ := info_parts infoInt
  rcases A with _ | ad
  · have hl : l = [] := by
      rcases l with _ | ⟨y, r⟩
      · rfl
      · obtain ⟨b, off, e, _⟩ := hr (by simp [ints])
        cases e
    subst hl
    rw [hN rfl] at hx
    refine wpList_append_own_none hgd (.tmp s) (.tmp x) _ ho base 3 i0 1 Try.underlying93 hi0 v l0.length (ints l0) hs hown hx ?_
    exact h v w (by rw [List.append_nil]; exact hown) (World.grownBy.refl w _)
  · refine wpList_append_own w hgd (.tmp s) (.tmp x) _ ho base 3 i0 _ 1 8 Try.underlying93 hi0 hz0 hz1 hz2 rfl (by omega) v l0.length (ints l0) hs hown
      ad l.length c (ints l) hx (by rw [ints_len]; omega) (fun j u hu => ?_) ints_one (by simp only [maxLen]; omega) hR hbase ?_
    · obtain ⟨b, off, e, _, hc⟩ := hr (by have := (List.getElem?_eq_some_iff.1 hu).1; omega)
      simp only [Option.some.injEq] at e
      subst e
      rw [addr_plain]
      exact hc j u hu
    · intro v' w' h1 h2 _
      refine h v' w' ?_ h2
      show w'.ownsRow base 3 1 v' (l0 ++ l).length (ints (l0 ++ l))
      rw [ints_app, List.length_append]
      exact h1
/-- append of a whole list of spans, nil or not. -/
theorem app_spans {ops : Array Oper} {rest : List Oper} {o : Oper} {a : Act} {w : World} {Q : Exit → Act → World → Prop} (hgd : o.guard = none) (s x : Nat)
    (ho : o.op = .call { callee := .builtin .append, args := #[.tmp s, .tmp x], argTypes := #[78, 78] })
    (base : Nat) (v : Value) (l0 : List Sp) (hs : a.eval (.tmp s) = v) (hown : w.ownsRow base 92 2 v l0.length (spc l0)) (A : Option Addr) (c : Nat) (l : List Sp)
    (hx : a.eval (.tmp x) = .slice A l.length c) (hr : Rd w w.heap.size A (spc l)) (hN : A = none → c = 0) (hbase : base ≤ w.heap.size) (hR : (l0.length + l.length) * 16 ≤ 140737488355328)
    (h : ∀ v' w', w'.ownsRow base 92 2 v' (l0 ++ l).length (spc (l0 ++ l)) → w.grownBy w' v.ownBlock → wpList Try.prog ops Q rest (a.put o.dst v') w') :
    wpList Try.prog ops Q (o :: rest) a w := by
  obtain ⟨i0, hi0, hz0, hz1, hz2⟩ := info_parts infoSpan
  rcases A with _ | ad
  · have hl : l = [] := by
      rcases l with _ | ⟨y, r⟩
      · rfl
      · obtain ⟨b, off, e, _⟩ := hr (by simp [spc])
        cases e
    subst hl
    rw [hN rfl] at hx
    refine wpList_append_own_none hgd (.tmp s) (.tmp x) _ ho base 92 i0 2 Try.underlying78 hi0 v l0.length (spc l0) hs hown hx ?_
    exact h v w (by rw [List.append_nil]; exact hown) (World.grownBy.refl w _)
  · refine wpList_append_own w hgd (.tmp s) (.tmp x) _ ho base 92 i0 _ 2 16 Try.underlying78 hi0 hz0 hz1 hz2 rfl (by omega) v l0.length (spc l0) hs hown
      ad l.length c (spc l) hx (spc_len l) (fun j u hu => ?_) spc_one (by simp only [maxLen]; omega) hR hbase ?_
    · obtain ⟨b, off, e, _, hc⟩ := hr (by have := (List.getElem?_eq_some_iff.1 hu).1; omega)
      simp only [Option.some.injEq] at e
      subst e
      rw [addr_plain]
      exact hc j u hu
    · intro v' w' h1 h2 _
      refine h v' w' ?_ h2
      rw [spc_app, List.length_append]
      exact h1
theorem own_empty (w : World) (e size : Nat) : (w.alloc (.cells #[] e)).ownsRow w.heap.size e size (.slice (some ⟨w.heap.size, 0, none⟩) 0 0) 0 [] := by
  have h := World.ownsRow_lit (base := w.heap.size) (e := e) (size := size) w #[] 0 (Nat.le_refl _) (by simp) (by simp)
  simpa using h
end Go.Proofs.Ytddhacmaogaocaa
