
/- Walks: two sets side by side. -/
import Derived.Test.YtddhacmaogaocaaW6
set_option maxRecDepth 10000
namespace Go.Proofs.Ytddhacmaogaocaa
open Go.RowKit

def behF : List Sp → Int → List Sp
  | [], _ => []
  | p :: r, f => if p.1 + p.2 ≤ f then r else p :: r
theorem behF_yes {s n f : Int} {r : List Sp} (h : s + n ≤ f) : behF ((s, n) :: r) f = r := if_pos h
theorem behF_no {s n f : Int} {r : List Sp} (h : ¬ s + n ≤ f) : behF ((s, n) :: r) f = (s, n) :: r := if_neg h
def strF : List Sp → Int → Bool × Int
  | [], _ => (false, 4096)
  | p :: _, f => if f < p.1 then (false, p.1) else (true, p.1 + p.2)

theorem rd_tail {w : World} {B : Nat} {b off : Nat} {s n : Int} {r : List Sp} (h : Rd w B (some ⟨b, off, none⟩) (spc ((s, n) :: r))) : Rd w B (some ⟨b, off + 2, none⟩) (spc r) :=
  h.drop (k := 2)

/-- What is left of a set behind f: its later spans end behind f. -/
structure Left (S : Int → Bool) (f : Int) (l : List Sp) : Prop where
  right : rightF 0 l = true
  same : ∀ x, f ≤ x → memF l x = S x
  tail : ∀ p ∈ l.tail, f < p.1 + p.2
theorem left_in {S : Int → Bool} {f : Int} {l : List Sp} (h : Left S f l) : (∀ p ∈ l, 0 ≤ p.1 ∧ 0 ≤ p.2 ∧ p.1 + p.2 ≤ 4096) ∧ (l.length : Int) ≤ 4097 :=
  ⟨fun p hp => by have := right_mem h.right p hp; omega, by have := right_len (by omega) (by omega) h.right; omega⟩
theorem left_beh {S : Int → Bool} {f : Int} {l : List Sp} (h : Left S f l) : Left S f (behF l f) ∧ ∀ p ∈ behF l f, f < p.1 + p.2 := by
  obtain ⟨h1, h2, h3⟩ := h
  rcases l with _ | ⟨⟨s, n⟩, r⟩
  · exact ⟨⟨h1, h2, h3⟩, by simp [behF]⟩
  · obtain ⟨g1, g2, g3, g4⟩ := right_cons h1
    simp only [List.tail_cons] at h3
    by_cases he : s + n ≤ f
    · rw [behF_yes he]
      refine ⟨⟨right_mono (by omega) g4, fun x hx => ?_, fun p hp => h3 p (List.mem_of_mem_tail hp)⟩, h3⟩
      rw [← h2 x hx]
      have : inSp (s, n) x = false := by simp [inSp]; omega
      simp [memF, this]
    · rw [behF_no he]
      exact ⟨⟨h1, h2, h3⟩, fun p hp => by
        rcases List.mem_cons.1 hp with rfl | hp
        · simp only; omega
        · exact h3 p hp⟩
theorem left_str {S : Int → Bool} {f : Int} {l : List Sp} (hf : f < 4096) (h : Left S f l) (hl : ∀ p ∈ l, f < p.1 + p.2) :
    f < (strF l f).2 ∧ (strF l f).2 ≤ 4096 ∧ (∀ x, f ≤ x → x < (strF l f).2 → S x = (strF l f).1) ∧ ∀ t, f < t → t ≤ (strF l f).2 → Left S t l := by
  obtain ⟨h1, h2, h3⟩ := h
  rcases l with _ | ⟨⟨s, n⟩, r⟩
  · exact ⟨hf, Int.le_refl _, fun x hx _ => by rw [← h2 x hx]; rfl, fun t ht _ => ⟨h1, fun x hx => h2 x (by omega), by simp⟩⟩
  · obtain ⟨g1, g2, g3, g4⟩ := right_cons h1
    have g5 := right_mem g4
    have g6 := hl (s, n) (by simp)
    simp only at g6
    simp only [List.tail_cons] at h3
    by_cases hs : f < s
    · rw [show strF ((s, n) :: r) f = (false, s) from if_pos hs]
      refine ⟨hs, by simp only; omega, fun x hx hx2 => ?_, fun t ht ht2 => ⟨h1, fun x hx => h2 x (by omega), fun p hp => ?_⟩⟩
      · rw [← h2 x hx]
        cases hm : memF ((s, n) :: r) x
        · rfl
        · have := mem_lo (right_mk (Int.le_refl s) g2 g3 g4) hm
          simp only at hx2
          omega
      · have := g5 p hp
        simp only at ht2
        omega
    · rw [show strF ((s, n) :: r) f = (true, s + n) from if_neg hs]
      refine ⟨g6, by simp only; omega, fun x hx hx2 => ?_, fun t ht ht2 => ⟨h1, fun x hx => h2 x (by omega), fun p hp => ?_⟩⟩
      · rw [← h2 x hx]
        exact mem_head (by omega) hx2
      · have := g5 p hp
        simp only at ht2
        omega

end Go.Proofs.Ytddhacmaogaocaa
