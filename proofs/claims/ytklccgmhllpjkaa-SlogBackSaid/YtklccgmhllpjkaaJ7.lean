/- Logs as plain mathematics: replayed in parts; what leads from one set to another; there and back. -/
import Derived.Test.YtklccgmhllpjkaaJ6
set_option maxRecDepth 10000
namespace Go.Proofs.Ytklccgmhllpjkaa
open Go.RowKit

/-! ### In parts -/
theorem replay_app : ∀ (a b : List Mv) (S : Int → Bool), replayF (a ++ b) S = (replayF a S).bind (replayF b)
  | [], _, _ => rfl
  | m :: r, b, S => by
    show (if (rightM m && fitM m S) = true then replayF (r ++ b) (setM m S) else none) = ((if (rightM m && fitM m S) = true then replayF r (setM m S) else none) : Option (Int → Bool)).bind (replayF b)
    by_cases h : (rightM m && fitM m S) = true
    · rw [if_pos h, if_pos h]
      exact replay_app r b _
    · rw [if_neg h, if_neg h]
      rfl
/-- Two sets that are one as far as numbers go. -/
def Like (S T : Int → Bool) : Prop := ∀ n, 0 ≤ n → n < 4096 → S n = T n
theorem fit_like {m : Mv} {S T : Int → Bool} (hr : rightM m = true) (h : Like S T) : fitM m S = fitM m T := by
  obtain ⟨h1, h2, h3⟩ := rightM_iff.1 hr
  rw [Bool.eq_iff_iff, fit_iff, fit_iff]
  exact ⟨fun hh x hx hy => h x (by omega) (by omega) ▸ hh x hx hy, fun hh x hx hy => (h x (by omega) (by omega)).symm ▸ hh x hx hy⟩
theorem set_like {m : Mv} {S T : Int → Bool} (h : Like S T) : Like (setM m S) (setM m T) := fun n h1 h2 => by
  unfold setM
  rw [h n h1 h2]
theorem replay_like : ∀ (l : List Mv) {S T : Int → Bool}, Like S T → repL (replayF l S) = repL (replayF l T) ∧ repC (replayF l S) = repC (replayF l T)
  | [], S, T, h => ⟨canon_congr h, rfl⟩
  | m :: r, S, T, h => by
    show repL (if (rightM m && fitM m S) = true then replayF r (setM m S) else none) = repL (if (rightM m && fitM m T) = true then replayF r (setM m T) else none) ∧ repC (if (rightM m && fitM m S) = true then replayF r (setM m S) else none) = repC (if (rightM m && fitM m T) = true then replayF r (setM m T) else none)
    cases hr : rightM m with
    | false => exact ⟨rfl, rfl⟩
    | true =>
      rw [fit_like hr h, Bool.true_and]
      by_cases hf : fitM m T = true
      · rw [if_pos hf, if_pos hf]
        exact replay_like r (set_like h)
      · rw [if_neg hf, if_neg hf]
        exact ⟨rfl, rfl⟩
theorem like_canon (S : Int → Bool) : Like S (memF (canon S)) := fun n h1 h2 => by
  rw [canon_mem, decide_eq_true ⟨h1, h2⟩, Bool.true_and]
theorem repL_right (o : Option (Int → Bool)) : rightF 0 (repL o) = true := by
  cases o with
  | none => rfl
  | some S => exact canon_right S
theorem repF_parts_none {l : List Sp} {a : List Mv} (b : List Mv) (h : repF l a = none) : repF l (a ++ b) = none := by
  unfold repF at h ⊢
  by_cases hr : rightF 0 l = true
  · rw [if_pos hr] at h ⊢
    rw [replay_app, h]
    rfl
  · rw [if_neg hr]
theorem repF_parts {l : List Sp} {a : List Mv} (b : List Mv) {S : Int → Bool} (h : repF l a = some S) : repL (repF l (a ++ b)) = repL (repF (canon S) b) ∧ repC (repF l (a ++ b)) = repC (repF (canon S) b) := by
  unfold repF at h ⊢
  by_cases hr : rightF 0 l = true
  · rw [if_pos hr] at h ⊢
    rw [if_pos (canon_right S), replay_app, h]
    exact replay_like b (like_canon S)
  · rw [if_neg hr] at h
    cases h

/-! ### From one set to another -/
def putS (t : Bool) (L : List Sp) (S : Int → Bool) (n : Int) : Bool := if memF L n = true then t else S n
theorem replay_sp (t : Bool) : ∀ (L : List Sp) (f : Int) (S : Int → Bool), 0 ≤ f → rightF f L = true → (∀ n, memF L n = true → S n ≠ t) → replayF (spM t L) S = some (putS t L S)
  | [], _, S, _, _, _ => rfl
  | (s, k) :: r, f, S, hf, hr, h => by
    obtain ⟨h1, h2, h3, h4⟩ := right_cons hr
    show (if (rightM ⟨t, s, k⟩ && fitM ⟨t, s, k⟩ S) = true then replayF (spM t r) (setM ⟨t, s, k⟩ S) else none) = _
    rw [if_pos (by
      rw [rightM_iff.2 ⟨by simp only; omega, h2, h3⟩, fit_iff.2 fun x hx1 hx2 => h x (mem_head hx1 hx2)]
      rfl)]
    rw [replay_sp t r (s + k + 1) _ (by omega) h4 fun n hn => by
      unfold setM
      rw [if_neg (by have := mem_lo h4 hn; simp only; omega)]
      exact h n (mem_cons_iff.2 (.inr hn))]
    refine congrArg some (funext fun n => ?_)
    unfold putS setM
    by_cases hn : memF r n = true
    · rw [if_pos hn, if_pos (mem_cons_iff.2 (.inr hn))]
    · rw [if_neg hn]
      by_cases hs : s ≤ n ∧ n < s + k
      · rw [if_pos hs, if_pos (mem_cons_iff.2 (.inl hs))]
      · rw [if_neg hs, if_neg fun hh => (mem_cons_iff.1 hh).elim hs hn]
theorem mix_mem {a b : List Sp} (ha : rightF 0 a = true) (n : Int) : memF (canon (mixF 1 (memF a) (memF b))) n = (memF a n && !memF b n) := by
  rw [canon_mem]
  show (decide (0 ≤ n ∧ n < 4096) && (memF a n && !memF b n)) = _
  cases h : memF a n with
  | false => simp
  | true =>
    have := mem_lo ha h
    rw [decide_eq_true ⟨this.1, this.2⟩, Bool.true_and]
theorem replay_diff {a b : List Sp} (ha : rightF 0 a = true) (hb : rightF 0 b = true) : repF a (diffF a b) = some (memF b) := by
  unfold repF diffF
  rw [if_pos ha, if_pos ⟨ha, hb⟩]
  unfold diffS
  rw [replay_app, replay_sp false _ 0 _ (by omega) (canon_right _) fun n hn => by
    rw [mix_mem ha] at hn
    cases h : memF a n
    · rw [h] at hn; cases hn
    · simp]
  show replayF (spM true (canon (mixF 1 (memF b) (memF a)))) _ = _
  have hp : ∀ n, putS false (canon (mixF 1 (memF a) (memF b))) (memF a) n = (memF a n && memF b n) := fun n => by
    unfold putS
    rw [mix_mem ha]
    cases memF a n <;> cases memF b n <;> rfl
  rw [replay_sp true _ 0 _ (by omega) (canon_right _) fun n hn => by
    rw [mix_mem hb] at hn
    rw [hp]
    cases h : memF a n
    · simp
    · rw [h] at hn; simp at hn]
  refine congrArg some (funext fun n => ?_)
  show (if memF (canon (mixF 1 (memF b) (memF a))) n = true then true else putS false (canon (mixF 1 (memF a) (memF b))) (memF a) n) = memF b n
  rw [mix_mem hb, hp]
  cases memF a n <;> cases memF b n <;> rfl
theorem rep_diff {a b : List Sp} (ha : rightF 0 a = true) (hb : rightF 0 b = true) : repL (repF a (diffF a b)) = b ∧ repC (repF a (diffF a b)) = 0 := by
  rw [replay_diff ha hb]
  exact ⟨canon_of hb, rfl⟩
theorem diff_nil {b : List Sp} (hb : rightF 0 b = true) : diffF [] b = spM true b := by
  unfold diffF diffS
  rw [if_pos ⟨rfl, hb⟩, canon_eq (l := []) (S := mixF 1 (memF []) (memF b)) rfl fun _ _ _ => rfl, canon_eq (S := mixF 1 (memF b) (memF [])) (l := b) hb fun n _ _ => by
    show (memF b n && !memF [] n) = _
    rw [show memF [] n = false from rfl]
    simp]
  rfl
theorem diff_nil_len {b : List Sp} (hb : rightF 0 b = true) : (diffF [] b).length = b.length := by rw [diff_nil hb, spM_len]

/-! ### As bytes, there and back -/
theorem mvB_len (m : Mv) : (mvB m).length = 5 := rfl
theorem two_back (n : Nat) (hn : n < 65536) : numF [u8 (n % 256), u8 (n / 256)] = n := by
  have h1 : ((u8 (n % 256)).toNat : Int) = (n % 256 : Nat) := by rw [u8_nat]; omega
  have h2 : ((u8 (n / 256)).toNat : Int) = (n / 256 : Nat) := by rw [u8_nat]; omega
  simp only [numF]
  omega
theorem move_back (m : Mv) (h : rightM m = true) (r : List UInt8) : okAt (mvB m ++ r) 0 = true ∧ moveAt (mvB m ++ r) 0 = m := by
  obtain ⟨h1, h2, h3⟩ := rightM_iff.1 h
  have hk : kindN (mvB m ++ r) 0 = if m.t = true then 1 else 0 := by
    show (u8 (if m.t = true then 1 else 0)).toNat = _
    cases m.t <;> rfl
  have ha : twoN (mvB m ++ r) (0 + 1) = m.s.toNat := two_back _ (by omega)
  have hb : twoN (mvB m ++ r) (0 + 3) = m.n.toNat := two_back _ (by omega)
  have hm : moveAt (mvB m ++ r) 0 = m := by
    refine Mv.eq ?_ ?_ ?_
    · show (kindN (mvB m ++ r) 0 == 1) = m.t
      rw [hk]
      cases m.t <;> rfl
    · show ((twoN (mvB m ++ r) (0 + 1) : Nat) : Int) = m.s
      rw [ha]; omega
    · show ((twoN (mvB m ++ r) (0 + 3) : Nat) : Int) = m.n
      rw [hb]; omega
  refine ⟨?_, hm⟩
  unfold okAt
  rw [hm, h, hk]
  cases m.t <;> rfl
theorem kind_drop (l : List UInt8) (p : Nat) : kindN l p = kindN (l.drop p) 0 := by
  unfold kindN
  rw [List.getD_eq_getElem?_getD, List.getD_eq_getElem?_getD, List.getElem?_drop, Nat.add_zero]
theorem two_drop (l : List UInt8) (p k : Nat) : twoN l (p + k) = twoN (l.drop p) (0 + k) := by
  unfold twoN
  rw [List.drop_drop, Nat.zero_add]
theorem move_drop (l : List UInt8) (p : Nat) : moveAt l p = moveAt (l.drop p) 0 := by
  unfold moveAt
  rw [kind_drop l p, two_drop l p 1, two_drop l p 3]
theorem ok_drop (l : List UInt8) (p : Nat) : okAt l p = okAt (l.drop p) 0 := by
  unfold okAt
  rw [kind_drop l p, move_drop l p]
theorem mvsB_drop : ∀ (l : List Mv) (k : Nat) (hk : k < l.length), (mvsB l).drop (5 * k) = mvB l[k] ++ mvsB (l.drop (k + 1))
  | m :: r, 0, _ => rfl
  | m :: r, k + 1, hk => by
    show (mvB m ++ mvsB r).drop (5 * (k + 1)) = _
    rw [List.drop_append, List.drop_eq_nil_of_le (by rw [mvB_len]; omega), List.nil_append, mvB_len, show 5 * (k + 1) - 5 = 5 * k by omega]
    exact mvsB_drop r k (by simpa using hk)
theorem read_back {l : List Mv} {x : List UInt8} (h : bytesM l = some x) : readM x = some l ∧ x.length = 5 * l.length := by
  unfold bytesM at h
  by_cases hc : l.length ≤ 4096 ∧ l.all rightM = true
  · rw [if_pos hc] at h
    obtain rfl : mvsB l = x := by injection h
    have hl := mvsB_len l
    have hd : (mvsB l).length / 5 = l.length := by omega
    have hall : ∀ k (hk : k < l.length), okAt (mvsB l) (5 * k) = true ∧ moveAt (mvsB l) (5 * k) = l[k] := fun k hk => by
      rw [ok_drop, move_drop, mvsB_drop l k hk]
      exact move_back l[k] (List.all_eq_true.1 hc.2 _ (List.getElem_mem hk)) _
    refine ⟨?_, by omega⟩
    unfold readM
    rw [hd, if_pos ⟨by omega, by omega, List.all_eq_true.2 fun k hk => (hall k (List.mem_range.1 hk)).1⟩]
    refine congrArg some (List.ext_getElem (movesOf_len _ _) fun k h1 h2 => ?_)
    have e : (movesOf (mvsB l) l.length)[k] = moveAt (mvsB l) (5 * k) := by simp [movesOf]
    rw [e]
    exact (hall k h2).2
  · rw [if_neg hc] at h
    cases h
end Go.Proofs.Ytklccgmhllpjkaa
