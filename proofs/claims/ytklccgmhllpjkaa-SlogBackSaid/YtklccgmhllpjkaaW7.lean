
/- Walks: two sets side by side. -/
import Derived.Test.YtklccgmhllpjkaaW6
set_option maxRecDepth 10000
namespace Go.Proofs.Ytklccgmhllpjkaa
open Go.RowKit

def behF : List Sp → Int → List Sp
  | [], _ => []
  | p :: r, f => if p.1 + p.2 ≤ f then r else p :: r
theorem behF_yes {s n f : Int} {r : List Sp} (h : s + n ≤ f) : behF ((s, n) :: r) f = r := if_pos h
theorem behF_no {s n f : Int} {r : List Sp} (h : ¬ s + n ≤ f) : behF ((s, n) :: r) f = (s, n) :: r := if_neg h
def strF : List Sp → Int → Bool × Int
  | [], _ => (false, 4096)
  | p :: _, f => if f < p.1 then (false, p.1) else (true, p.1 + p.2)

theorem rd_tail {w : World} {B : Nat} {b off : Nat} {s n : Int} {r : List Sp} (h : Rd w B (some ⟨b, off, none⟩) (spc ((s, n) :: r))) : Rd w B (some ⟨b, off + 2, none⟩) (spc r) :=
  h.drop (k := 2)

set_option maxHeartbeats 400000 in
theorem behind_any (B : Nat) (A : Option Addr) (c : Nat) (l : List Sp) (f : Int) (w : World) (hB : B ≤ w.heap.size) (hs : Rd w B A (spc l)) (hl : (l.length : Int) ≤ 4097) (hc : l.length ≤ c) (hin : ∀ p ∈ l, 0 ≤ p.1 ∧ 0 ≤ p.2 ∧ p.1 + p.2 ≤ 4096) :
    Calls Try.prog 49 #[.slice A l.length c, .int .i64 f] w fun e w' => ∃ A' c', e = .returned (.slice A' (behF l f).length c') ∧ Rd w B A' (spc (behF l f)) ∧ (behF l f).length ≤ c' ∧ Below w.heap.size w w' := by
  rcases l with _ | ⟨⟨s, n⟩, r⟩
  · go_enter Try.func49, Try.ntmps49
    go_wp2_with fail
    go_ret
    exact ⟨A, c, rfl, hs, hc, Below.refl _ _⟩
  · obtain ⟨h0, h1, h2⟩ := hin (s, n) (by simp)
    obtain ⟨b, off, rfl, hb0, hc1, hc2⟩ := sp_at hs 0 (by simp)
    have hb : b < w.heap.size := by omega
    simp only [Nat.zero_mul, Nat.add_zero, List.getElem_cons_zero] at hc1 hc2 h0 h1 h2
    have HS := Lib.hid hs
    have HC := Lib.hid hc
    clear hs hin
    simp only [List.length_cons] at hc
    have hl' : (r.length : Int) ≤ 4096 := by simp at hl; omega
    clear hl
    by_cases he : s + n ≤ f
    · have HB := Lib.hid (behF_yes (r := r) he)
      by_cases hcap : c = 1
      · subst hcap
        go_enter Try.func49, Try.ntmps49
        go_wp2_with (go_at_call 39; refine (end_in _ _ _ (by omega) (by omega)).mono ?_; rintro e w1 ⟨rfl, hb1⟩)
        go_ret
        obtain rfl : r = [] := List.eq_nil_of_length_eq_zero (by omega)
        exact ⟨_, 0, by rw [HB.out]; rfl, by rw [HB.out]; exact Rd.nil, by rw [HB.out]; simp, hb1⟩
      · have hcap' : 1 < c := by omega
        go_enter Try.func49, Try.ntmps49
        go_wp2_with (go_at_call 39; refine (end_in _ _ _ (by omega) (by omega)).mono ?_; rintro e w1 ⟨rfl, hb1⟩)
        go_ret
        exact ⟨_, c - 1, by rw [HB.out]; rfl, by rw [HB.out]; exact rd_tail HS.out, by rw [HB.out]; omega, hb1⟩
    · have HB := Lib.hid (behF_no (r := r) he)
      go_enter Try.func49, Try.ntmps49
      go_wp2_with (go_at_call 39; refine (end_in _ _ _ (by omega) (by omega)).mono ?_; rintro e w1 ⟨rfl, hb1⟩)
      go_ret
      exact ⟨_, c, by rw [HB.out]; rfl, by rw [HB.out]; exact HS.out, by rw [HB.out]; exact HC.out, hb1⟩

theorem stretch_any (A : Option Addr) (c : Nat) (l : List Sp) (f : Int) (w : World) (hs : Rd w w.heap.size A (spc l)) (hl : (l.length : Int) ≤ 4097) (hin : ∀ p ∈ l, 0 ≤ p.1 ∧ 0 ≤ p.2 ∧ p.1 + p.2 ≤ 4096) :
    Calls Try.prog 50 #[.slice A l.length c, .int .i64 f] w fun e w' => e = .returned (.tuple #[.bool (strF l f).1, .int .i64 (strF l f).2]) ∧ Below w.heap.size w w' := by
  rcases l with _ | ⟨⟨s, n⟩, r⟩
  · go_enter Try.func50, Try.ntmps50
    go_wp2_with fail
    go_ret2
    exact ⟨rfl, Below.refl _ _⟩
  · obtain ⟨h0, h1, h2⟩ := hin (s, n) (by simp)
    obtain ⟨b, off, rfl, hb, hc1, hc2⟩ := sp_at hs 0 (by simp)
    simp only [Nat.zero_mul, Nat.add_zero, List.getElem_cons_zero] at hc1 hc2 h0 h1 h2
    clear hs hin
    have hl' : (r.length : Int) ≤ 4096 := by simp at hl; omega
    clear hl
    have hne : ((r.length + 1 : Nat) == 0) = false := by simp
    by_cases hf : f < s
    · have HT : Hid (strF ((s, n) :: r) f = (false, s)) := if_pos hf
      go_enter Try.func50, Try.ntmps50
      go_wp2_with fail
      go_quiet (fail)
      go_wp2_with fail
      go_ret2
      exact ⟨by rw [HT.out]; rfl, below_draws (Below.refl _ _) _⟩
    · have HT : Hid (strF ((s, n) :: r) f = (true, s + n)) := if_neg hf
      go_enter Try.func50, Try.ntmps50
      go_wp2_with (go_at_call 39; refine (end_in _ _ _ (by omega) (by omega)).mono ?_; rintro e w1 ⟨rfl, hb1⟩)
      go_ret2
      exact ⟨by rw [HT.out]; rfl, hb1⟩

/-- What is left of a set behind f: its later spans end behind f. -/
structure Left (S : Int → Bool) (f : Int) (l : List Sp) : Prop where
  right : rightF 0 l = true
  same : ∀ x, f ≤ x → memF l x = S x
  tail : ∀ p ∈ l.tail, f < p.1 + p.2
theorem left_in {S : Int → Bool} {f : Int} {l : List Sp} (h : Left S f l) : (∀ p ∈ l, 0 ≤ p.1 ∧ 0 ≤ p.2 ∧ p.1 + p.2 ≤ 4096) ∧ (l.length : Int) ≤ 4097 :=
  ⟨fun p hp => by have := right_mem h.right p hp; omega, by have := right_len (by omega) (by omega) h.right; omega⟩
theorem left_beh {S : Int → Bool} {f : Int} {l : List Sp} (h : Left S f l) : Left S f (behF l f) ∧ ∀ p ∈ behF l f, f < p.1 + p.2 := by
  obtain ⟨h1, h2, h3⟩ := h
  rcases l with _ | ⟨⟨s, n⟩, r⟩
  · exact ⟨⟨h1, h2, h3⟩, by simp [behF]⟩
  · obtain ⟨g1, g2, g3, g4⟩ := right_cons h1
    simp only [List.tail_cons] at h3
    by_cases he : s + n ≤ f
    · rw [behF_yes he]
      refine ⟨⟨right_mono (by omega) g4, fun x hx => ?_, fun p hp => h3 p (List.mem_of_mem_tail hp)⟩, h3⟩
      rw [← h2 x hx]
      have : inSp (s, n) x = false := by simp [inSp]; omega
      simp [memF, this]
    · rw [behF_no he]
      exact ⟨⟨h1, h2, h3⟩, fun p hp => by
        rcases List.mem_cons.1 hp with rfl | hp
        · simp only; omega
        · exact h3 p hp⟩
theorem left_str {S : Int → Bool} {f : Int} {l : List Sp} (hf : f < 4096) (h : Left S f l) (hl : ∀ p ∈ l, f < p.1 + p.2) :
    f < (strF l f).2 ∧ (strF l f).2 ≤ 4096 ∧ (∀ x, f ≤ x → x < (strF l f).2 → S x = (strF l f).1) ∧ ∀ t, f < t → t ≤ (strF l f).2 → Left S t l := by
  obtain ⟨h1, h2, h3⟩ := h
  rcases l with _ | ⟨⟨s, n⟩, r⟩
  · exact ⟨hf, Int.le_refl _, fun x hx _ => by rw [← h2 x hx]; rfl, fun t ht _ => ⟨h1, fun x hx => h2 x (by omega), by simp⟩⟩
  · obtain ⟨g1, g2, g3, g4⟩ := right_cons h1
    have g5 := right_mem g4
    have g6 := hl (s, n) (by simp)
    simp only at g6
    simp only [List.tail_cons] at h3
    by_cases hs : f < s
    · rw [show strF ((s, n) :: r) f = (false, s) from if_pos hs]
      refine ⟨hs, by simp only; omega, fun x hx hx2 => ?_, fun t ht ht2 => ⟨h1, fun x hx => h2 x (by omega), fun p hp => ?_⟩⟩
      · rw [← h2 x hx]
        cases hm : memF ((s, n) :: r) x
        · rfl
        · have := mem_lo (right_mk (Int.le_refl s) g2 g3 g4) hm
          simp only at hx2
          omega
      · have := g5 p hp
        simp only at ht2
        omega
    · rw [show strF ((s, n) :: r) f = (true, s + n) from if_neg hs]
      refine ⟨g6, by simp only; omega, fun x hx hx2 => ?_, fun t ht ht2 => ⟨h1, fun x hx => h2 x (by omega), fun p hp => ?_⟩⟩
      · rw [← h2 x hx]
        exact mem_head (by omega) hx2
      · have := g5 p hp
        simp only at ht2
        omega

set_option maxRecDepth 100000 in
set_option maxHeartbeats 3000000 in
theorem pick_any (F : FuncId) (wf : Bool → Bool → Bool) (A A' : Option Addr) (c c' : Nat) (l m : List Sp) (w : World) (hs : Rd w w.heap.size A (spc l)) (hr : rightF 0 l = true) (hs' : Rd w w.heap.size A' (spc m)) (hr' : rightF 0 m = true)
    (hc : l.length ≤ c) (hc' : m.length ≤ c')
    (hent : ∀ args W, Sem.run Try.prog (callFunc F args) W = .ok (.enter F args) W)
    (hF : ∀ (x y : Bool) (W : World), Calls Try.prog F #[.bool x, .bool y] W fun e w' => e = .returned (.bool (wf x y)) ∧ Below W.heap.size W w') :
    Calls Try.prog 42 #[.slice A l.length c, .slice A' m.length c', .func (.func F) #[] #[]] w fun e w' => ∃ v, e = .returned v ∧ OwnR w' w.heap.size v (canon fun x => wf (memF l x) (memF m x)).reverse ∧ Below w.heap.size w w' := by
  have hR1 : ∀ W, Below w.heap.size w W → Calls Try.prog 23 #[.slice A l.length c] W fun e w' => e = .returned (.bool true) ∧ Below W.heap.size W w' := fun W hW => by
    have h := right_any A c l W ((hs.below hW).mono hW.size) (right_ok (by omega) hr) (by have := right_len (by omega) (by omega) hr; omega)
    rw [hr] at h; exact h
  have hR2 : ∀ W, Below w.heap.size w W → Calls Try.prog 23 #[.slice A' m.length c'] W fun e w' => e = .returned (.bool true) ∧ Below W.heap.size W w' := fun W hW => by
    have h := right_any A' c' m W ((hs'.below hW).mono hW.size) (right_ok (by omega) hr') (by have := right_len (by omega) (by omega) hr'; omega)
    rw [hr'] at h; exact h
  have H1 := Lib.hid hR1
  have H2 := Lib.hid hR2
  have HF := Lib.hid hF
  have HLa : Hid (∃ B c, Value.slice A l.length c = .slice B l.length c) := ⟨A, c, rfl⟩
  clear hR1 hR2 hF HLa
  go_enter Try.func42, Try.ntmps42
  go_wp2_with fail
  refine (H1.out _ (Below.refl _ _)).mono ?_
  rintro e w1 ⟨rfl, hb1⟩
  go_wp2_with fail
  refine (H2.out _ hb1).mono ?_
  rintro e w2 ⟨rfl, hb2⟩
  go_wp2_with fail
  have hb3 : Below w.heap.size w w2 := hb1.trans (hb2.mono hb1.size)
  clear hb1 hb2 H1 H2
  have hsA : Rd w2 w.heap.size A (spc l) := hs.below hb3
  have hsA' : Rd w2 w.heap.size A' (spc m) := hs'.below hb3
  go_loopw [0, 1, 7, 8] (fun a b v i wr => ∃ (k : Nat) (A A' : Option Addr) (c c' : Nat) (la lb : List Sp), k ≤ 4096 ∧ i = .int .i64 k ∧ a = .slice A la.length c ∧ b = .slice A' lb.length c' ∧ la.length ≤ c ∧ lb.length ≤ c' ∧ Rd wr w.heap.size A (spc la) ∧ Rd wr w.heap.size A' (spc lb) ∧ Left (memF l) k la ∧ Left (memF m) k lb ∧ OwnR wr w.heap.size v (buildR (fun x => wf (memF l x) (memF m x)) k) ∧ Below w.heap.size w wr) (fun _ _ _ i _ => 4096 - (intOf i).toNat)
  case atStart => exact ⟨0, A, A', c, c', l, m, by omega, rfl, rfl, rfl, hc, hc', hsA, hsA', ⟨hr, fun _ _ => rfl, fun p hp => by have := right_mem hr p (List.mem_of_mem_tail hp); omega⟩, ⟨hr', fun _ _ => rfl, fun p hp => by have := right_mem hr' p (List.mem_of_mem_tail hp); omega⟩, World.ownsRow_nil _ _ _ _, hb3⟩
  case round =>
    obtain ⟨k, A, A', c, c', la, lb, hk, rfl, rfl, rfl, hca, hcb, hra, hrb, hla, hlb, hown, hb⟩ := hrel
    by_cases hlt : k < 4096
    · have hlt' : (k : Int) < 4096 := by omega
      obtain ⟨ha1, ha2⟩ := left_beh hla
      obtain ⟨hb1, hb2⟩ := left_beh hlb
      obtain ⟨ta1, ta2, ta3, ta4⟩ := left_str hlt' ha1 ha2
      obtain ⟨tb1, tb2, tb3, tb4⟩ := left_str hlt' hb1 hb2
      obtain ⟨hina, hlena⟩ := left_in hla
      obtain ⟨hinb, hlenb⟩ := left_in hlb
      obtain ⟨hina', hlena'⟩ := left_in ha1
      obtain ⟨hinb', hlenb'⟩ := left_in hb1
      have HA := Lib.hid (And.intro hina hlena)
      have HB := Lib.hid (And.intro hinb hlenb)
      have HA' := Lib.hid (And.intro hina' hlena')
      have HB' := Lib.hid (And.intro hinb' hlenb')
      have HTa := Lib.hid (And.intro ta3 ta4)
      have HTb := Lib.hid (And.intro tb3 tb4)
      have HO := Lib.hid hown
      have HK := Lib.hid (And.intro hk hlt)
      clear hina hlena hinb hlenb hina' hlena' hinb' hlenb' ha2 hb2 ta3 ta4 tb3 tb4 hown hk hlt hla hlb ha1 hb1
      have hsz := hb.size
      go_wp2_with fail
      refine (behind_any w.heap.size A c la k wr hsz hra HA.out.2 hca HA.out.1).mono ?_
      rintro e w3 ⟨A1, c1, rfl, hr1, hc1, hb3⟩
      go_wp2_with fail
      have hsz3 := hb3.size
      refine (behind_any w.heap.size A' c' lb k w3 (by omega) (hrb.below (hb3.mono hsz)) HB.out.2 hcb HB.out.1).mono ?_
      rintro e w4 ⟨A2, c2, rfl, hr2, hc2, hb4⟩
      go_wp2_with fail
      have hsz4 := hb4.size
      have hr1' : Rd w4 w.heap.size A1 (spc (behF la k)) := (hr1.below (hb3.mono hsz)).below (hb4.mono (by omega))
      have hr2' : Rd w4 w.heap.size A2 (spc (behF lb k)) := hr2.below (hb4.mono (by omega))
      refine (stretch_any A1 c1 (behF la k) k w4 (hr1'.mono (by omega)) HA'.out.2 HA'.out.1).mono ?_
      rintro e w5 ⟨rfl, hb5⟩
      go_wp2_with fail
      have hsz5 := hb5.size
      have hr1'' := hr1'.below (hb5.mono (by omega))
      have hr2'' := hr2'.below (hb5.mono (by omega))
      refine (stretch_any A2 c2 (behF lb k) k w5 (hr2''.mono (by omega)) HB'.out.2 HB'.out.1).mono ?_
      rintro e w6 ⟨rfl, hb6⟩
      have hsz6 := hb6.size
      go_wp2_with fail
      · have ht1 : (k : Int) < (strF (behF lb k) k).2 := by omega
        have ht2 : (strF (behF lb k) k).2 ≤ 4096 := by omega
        have hta : (strF (behF lb k) k).2 ≤ (strF (behF la k) k).2 := by omega
        have htb : (strF (behF lb k) k).2 ≤ (strF (behF lb k) k).2 := by omega
        have htn : (((strF (behF lb k) k).2).toNat : Int) = (strF (behF lb k) k).2 := Int.toNat_of_nonneg (by omega)
        have HN := Lib.hid htn
        clear htn
        refine (HF.out _ _ _).mono ?_
        rintro e w7 ⟨rfl, hb7⟩
        have hC : Below wr.heap.size wr w7 := (((hb3.trans (hb4.mono (by omega))).trans (hb5.mono (by omega))).trans (hb6.mono (by omega))).trans (hb7.mono (by omega))
        have hsz7 := hC.size
        have ho7 := own_far HO.out hC
        have hb07 : Below w.heap.size w w7 := hb.trans (hC.mono hsz)
        have hr17 : Rd w7 w.heap.size A1 (spc (behF la k)) := (hr1''.below (hb6.mono (by omega))).below (hb7.mono (by omega))
        have hr27 : Rd w7 w.heap.size A2 (spc (behF lb k)) := (hr2''.below (hb6.mono (by omega))).below (hb7.mono (by omega))
        have hsame : ∀ x : Int, k ≤ x → x < ((strF (behF lb k) k).2).toNat → wf (memF l x) (memF m x) = wf (strF (behF la k) k).1 (strF (behF lb k) k).1 := fun x h1 h2 => by
          rw [HN.out] at h2
          rw [HTa.out.1 x h1 (by omega), HTb.out.1 x h1 (by omega)]
        have HW := Lib.hid hsame
        have HL := Lib.hid (And.intro (HTa.out.2 _ ht1 hta) (HTb.out.2 _ ht1 htb))
        have HO7 := Lib.hid ho7
        clear hsame ho7
        have HP := Lib.hid (built_in (S := fun x => wf (memF l x) (memF m x)) HK.out.1)
        by_cases hw : wf (strF (behF la k) k).1 (strF (behF lb k) k).1 = true
        · go_wp2_with fail
          refine (add_any w.heap.size _ (buildR (fun x => wf (memF l x) (memF m x)) k) k (strF (behF lb k) k).2 _ HO7.out (by omega) HP.out.2 (by omega) ht1 ht2 HP.out.1).mono ?_
          rintro e w8 ⟨v8, rfl, ho8, hb8⟩
          go_wp2_with fail
          go_roundw
          case rel => exact ⟨((strF (behF lb k) k).2).toNat, A1, A2, c1, c2, behF la k, behF lb k, by have := HN.out; omega, by rw [HN.out], rfl, rfl, hc1, hc2, hr17.below hb8, hr27.below hb8, by rw [HN.out]; exact HL.out.1, by rw [HN.out]; exact HL.out.2, by rw [build_yes (f := k) (by have := HN.out; omega) (fun x h1 h2 => (HW.out x h1 h2).trans hw), HN.out]; exact ho8, hb07.trans hb8⟩
          case measure => simp [intOf]; have := HN.out; have := HK.out; omega
        · have hwf : wf (strF (behF la k) k).1 (strF (behF lb k) k).1 = false := by simpa using hw
          clear hw
          go_wp2_with fail
          go_roundw
          case rel => exact ⟨((strF (behF lb k) k).2).toNat, A1, A2, c1, c2, behF la k, behF lb k, by have := HN.out; omega, by rw [HN.out], rfl, rfl, hc1, hc2, hr17, hr27, by rw [HN.out]; exact HL.out.1, by rw [HN.out]; exact HL.out.2, by rw [build_no (f := k) (by have := HN.out; omega) (fun x h1 h2 => (HW.out x h1 h2).trans hwf)]; exact HO7.out, hb07⟩
          case measure => simp [intOf]; have := HN.out; have := HK.out; omega
      · have ht1 : (k : Int) < (strF (behF la k) k).2 := by omega
        have ht2 : (strF (behF la k) k).2 ≤ 4096 := by omega
        have hta : (strF (behF la k) k).2 ≤ (strF (behF la k) k).2 := by omega
        have htb : (strF (behF la k) k).2 ≤ (strF (behF lb k) k).2 := by omega
        have htn : (((strF (behF la k) k).2).toNat : Int) = (strF (behF la k) k).2 := Int.toNat_of_nonneg (by omega)
        have HN := Lib.hid htn
        clear htn
        refine (HF.out _ _ _).mono ?_
        rintro e w7 ⟨rfl, hb7⟩
        have hC : Below wr.heap.size wr w7 := (((hb3.trans (hb4.mono (by omega))).trans (hb5.mono (by omega))).trans (hb6.mono (by omega))).trans (hb7.mono (by omega))
        have hsz7 := hC.size
        have ho7 := own_far HO.out hC
        have hb07 : Below w.heap.size w w7 := hb.trans (hC.mono hsz)
        have hr17 : Rd w7 w.heap.size A1 (spc (behF la k)) := (hr1''.below (hb6.mono (by omega))).below (hb7.mono (by omega))
        have hr27 : Rd w7 w.heap.size A2 (spc (behF lb k)) := (hr2''.below (hb6.mono (by omega))).below (hb7.mono (by omega))
        have hsame : ∀ x : Int, k ≤ x → x < ((strF (behF la k) k).2).toNat → wf (memF l x) (memF m x) = wf (strF (behF la k) k).1 (strF (behF lb k) k).1 := fun x h1 h2 => by
          rw [HN.out] at h2
          rw [HTa.out.1 x h1 (by omega), HTb.out.1 x h1 (by omega)]
        have HW := Lib.hid hsame
        have HL := Lib.hid (And.intro (HTa.out.2 _ ht1 hta) (HTb.out.2 _ ht1 htb))
        have HO7 := Lib.hid ho7
        clear hsame ho7
        have HP := Lib.hid (built_in (S := fun x => wf (memF l x) (memF m x)) HK.out.1)
        by_cases hw : wf (strF (behF la k) k).1 (strF (behF lb k) k).1 = true
        · go_wp2_with fail
          refine (add_any w.heap.size _ (buildR (fun x => wf (memF l x) (memF m x)) k) k (strF (behF la k) k).2 _ HO7.out (by omega) HP.out.2 (by omega) ht1 ht2 HP.out.1).mono ?_
          rintro e w8 ⟨v8, rfl, ho8, hb8⟩
          go_wp2_with fail
          go_roundw
          case rel => exact ⟨((strF (behF la k) k).2).toNat, A1, A2, c1, c2, behF la k, behF lb k, by have := HN.out; omega, by rw [HN.out], rfl, rfl, hc1, hc2, hr17.below hb8, hr27.below hb8, by rw [HN.out]; exact HL.out.1, by rw [HN.out]; exact HL.out.2, by rw [build_yes (f := k) (by have := HN.out; omega) (fun x h1 h2 => (HW.out x h1 h2).trans hw), HN.out]; exact ho8, hb07.trans hb8⟩
          case measure => simp [intOf]; have := HN.out; have := HK.out; omega
        · have hwf : wf (strF (behF la k) k).1 (strF (behF lb k) k).1 = false := by simpa using hw
          clear hw
          go_wp2_with fail
          go_roundw
          case rel => exact ⟨((strF (behF la k) k).2).toNat, A1, A2, c1, c2, behF la k, behF lb k, by have := HN.out; omega, by rw [HN.out], rfl, rfl, hc1, hc2, hr17, hr27, by rw [HN.out]; exact HL.out.1, by rw [HN.out]; exact HL.out.2, by rw [build_no (f := k) (by have := HN.out; omega) (fun x h1 h2 => (HW.out x h1 h2).trans hwf)]; exact HO7.out, hb07⟩
          case measure => simp [intOf]; have := HN.out; have := HK.out; omega
    · obtain rfl : k = 4096 := by omega
      have HO := Lib.hid hown
      clear hown
      go_wp2_with fail
      go_ret
      exact ⟨_, rfl, by unfold canon; rw [List.reverse_reverse]; exact HO.out, hb⟩

theorem cut_fn (x y : Bool) (W : World) : Calls Try.prog 43 #[.bool x, .bool y] W fun e w' => e = .returned (.bool (x && !y)) ∧ Below W.heap.size W w' := by
  cases x <;> cases y
  all_goals
    go_enter Try.func43, Try.ntmps43
    go_wp2_with fail
    go_ret
    exact ⟨rfl, Below.refl _ _⟩
end Go.Proofs.Ytklccgmhllpjkaa
