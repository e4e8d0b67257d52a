
/- Sets of numbers as spans: plain mathematics on lists, no program. -/
import Derived.Test.YtddhacmaogaocaaK
set_option maxRecDepth 10000
namespace Go.Proofs.Ytddhacmaogaocaa
open Go.RowKit

abbrev Sp := Int × Int
def spc (l : List Sp) : List Value := l.flatMap fun p => [.int .i64 p.1, .int .i64 p.2]
theorem spc_nil : spc [] = [] := rfl
theorem spc_cons (p : Sp) (l : List Sp) : spc (p :: l) = .int .i64 p.1 :: .int .i64 p.2 :: spc l := rfl
theorem spc_app (a b : List Sp) : spc (a ++ b) = spc a ++ spc b := by simp [spc]
theorem spc_len (l : List Sp) : (spc l).length = l.length * 2 := by
  induction l with
  | nil => rfl
  | cons p r ih => simp only [spc_cons, List.length_cons, ih]; omega
theorem spc_at (l : List Sp) : ∀ k (h : k < l.length), (spc l)[k * 2]? = some (.int .i64 l[k].1) ∧ (spc l)[k * 2 + 1]? = some (.int .i64 l[k].2) := by
  induction l with
  | nil => intro k h; simp at h
  | cons p r ih =>
    intro k h
    rcases k with _ | k
    · exact ⟨rfl, rfl⟩
    · have := ih k (by simpa using h)
      rw [spc_cons]
      rw [show (k + 1) * 2 = k * 2 + 1 + 1 from by omega]
      simpa using this
theorem spc_one {l : List Sp} : ∀ u ∈ spc l, u.oneCell' = true := by
  intro u hu
  simp only [spc, List.mem_flatMap, List.mem_cons, List.not_mem_nil, or_false] at hu
  obtain ⟨p, _, rfl | rfl⟩ := hu <;> rfl
theorem spc_inj : ∀ {l m : List Sp}, spc l = spc m → l = m
  | [], [], _ => rfl
  | [], p :: r, h => by simp [spc] at h
  | p :: r, [], h => by simp [spc] at h
  | p :: r, q :: s, h => by
    simp only [spc_cons, List.cons.injEq, Value.int.injEq, true_and] at h
    rw [spc_inj h.2.2, Prod.ext h.1 h.2.1]

def SpOk (l : List Sp) : Prop := ∀ p ∈ l, I64 p.1 ∧ I64 p.2

def rightF : Int → List Sp → Bool
  | _, [] => true
  | f, p :: r => if p.1 < f ∨ p.2 < 1 ∨ 4096 - p.1 < p.2 then false else rightF (p.1 + p.2 + 1) r

theorem rightF_no {g s n : Int} {r : List Sp} (h : s < g ∨ n < 1 ∨ 4096 - s < n) : rightF g ((s, n) :: r) = false := by
  simp [rightF, h]
theorem rightF_yes {g s n : Int} {r : List Sp} (h : ¬ (s < g ∨ n < 1 ∨ 4096 - s < n)) : rightF g ((s, n) :: r) = rightF (s + n + 1) r := by
  simp only [rightF]; rw [if_neg h]
theorem right_cons {g s n : Int} {r : List Sp} (h : rightF g ((s, n) :: r) = true) : g ≤ s ∧ 1 ≤ n ∧ s + n ≤ 4096 ∧ rightF (s + n + 1) r = true := by
  by_cases hb : s < g ∨ n < 1 ∨ 4096 - s < n
  · rw [rightF_no hb] at h; cases h
  · rw [rightF_yes hb] at h
    exact ⟨by omega, by omega, by omega, h⟩
theorem right_mk {g s n : Int} {r : List Sp} (h1 : g ≤ s) (h2 : 1 ≤ n) (h3 : s + n ≤ 4096) (h : rightF (s + n + 1) r = true) : rightF g ((s, n) :: r) = true := by
  rw [rightF_yes (by omega)]; exact h
def endF : Int → List Sp → Int
  | f, [] => f
  | _, p :: r => endF (p.1 + p.2 + 1) r
theorem right_app (m : List Sp) : ∀ (l : List Sp) (f : Int), rightF f (l ++ m) = (rightF f l && rightF (endF f l) m)
  | [], f => by simp [rightF, endF]
  | (s, n) :: r, f => by
    by_cases hb : s < f ∨ n < 1 ∨ 4096 - s < n
    · rw [List.cons_append, rightF_no hb, rightF_no hb]; rfl
    · rw [List.cons_append, rightF_yes hb, rightF_yes hb, right_app m r]; rfl
theorem end_app (m : List Sp) : ∀ (l : List Sp) (f : Int), endF f (l ++ m) = endF (endF f l) m
  | [], _ => rfl
  | (s, n) :: r, f => by rw [List.cons_append]; exact end_app m r _
theorem right_mono {l : List Sp} {f g : Int} (hg : g ≤ f) (h : rightF f l = true) : rightF g l = true := by
  rcases l with _ | ⟨⟨s, n⟩, r⟩
  · rfl
  · obtain ⟨h1, h2, h3, h4⟩ := right_cons h
    exact right_mk (by omega) h2 h3 h4
theorem right_mem : ∀ {l : List Sp} {f : Int}, rightF f l = true → ∀ p ∈ l, f ≤ p.1 ∧ 1 ≤ p.2 ∧ p.1 + p.2 ≤ 4096
  | [], _, _, p, hp => by simp at hp
  | (s, n) :: r, f, h, p, hp => by
    obtain ⟨h1, h2, h3, h4⟩ := right_cons h
    rcases List.mem_cons.1 hp with rfl | hp
    · exact ⟨h1, h2, h3⟩
    · have := right_mem h4 p hp
      omega
theorem right_ok {l : List Sp} {f : Int} (hf : 0 ≤ f) (h : rightF f l = true) : SpOk l := fun p hp => by
  have := right_mem h p hp
  unfold I64
  omega

def inSp (p : Sp) (n : Int) : Bool := decide (p.1 ≤ n) && decide (n < p.1 + p.2)
def memF (l : List Sp) (n : Int) : Bool := l.any fun p => inSp p n
theorem mem_iff {l : List Sp} {n : Int} : memF l n = true ↔ ∃ p ∈ l, p.1 ≤ n ∧ n < p.1 + p.2 := by
  simp [memF, inSp]
theorem mem_cons_iff {p : Sp} {l : List Sp} {n : Int} : memF (p :: l) n = true ↔ (p.1 ≤ n ∧ n < p.1 + p.2) ∨ memF l n = true := by
  simp [memF, inSp]
theorem mem_head {s n x : Int} {r : List Sp} (h1 : s ≤ x) (h2 : x < s + n) : memF ((s, n) :: r) x = true := mem_cons_iff.2 (.inl ⟨h1, h2⟩)
theorem mem_lo {l : List Sp} {f n : Int} (h : rightF f l = true) (hm : memF l n = true) : f ≤ n ∧ n < 4096 := by
  obtain ⟨p, hp, h1, h2⟩ := mem_iff.1 hm
  have := right_mem h p hp
  omega
theorem mem_not {l : List Sp} {f n : Int} (h : rightF f l = true) (hn : n < f ∨ 4096 ≤ n) : memF l n = false := by
  cases hm : memF l n
  · rfl
  · have := mem_lo h hm
    omega
/-- Sets with the same numbers are the same lists. -/
theorem right_ext : ∀ {l m : List Sp} {f : Int}, rightF f l = true → rightF f m = true → (∀ n, memF l n = memF m n) → l = m
  | [], [], _, _, _, _ => rfl
  | [], (s, n) :: r, f, _, hm, he => by
    obtain ⟨_, h2, _⟩ := right_cons hm
    have h := he s
    rw [mem_head (Int.le_refl _) (by omega)] at h
    simp [memF] at h
  | (s, n) :: r, [], f, hl, _, he => by
    obtain ⟨_, h2, _⟩ := right_cons hl
    have h := he s
    rw [mem_head (Int.le_refl _) (by omega)] at h
    simp [memF] at h
  | (s, n) :: r, (s', n') :: r', f, hl, hm, he => by
    obtain ⟨l1, l2, l3, l4⟩ := right_cons hl
    obtain ⟨m1, m2, m3, m4⟩ := right_cons hm
    have hs : s = s' := by
      have a := he s
      have b := he s'
      rw [mem_head (Int.le_refl _) (by omega)] at a
      rw [mem_head (s := s') (n := n') (Int.le_refl _) (by omega)] at b
      rcases mem_cons_iff.1 a.symm with a | a
      · rcases mem_cons_iff.1 b with b | b
        · simp at a b; omega
        · have := mem_lo l4 b; simp at a; omega
      · rcases mem_cons_iff.1 b with b | b
        · have := mem_lo m4 a; simp at b; omega
        · have := mem_lo m4 a; have := mem_lo l4 b; omega
    subst hs
    have hn : n = n' := by
      have a := he (s + n)
      have b := he (s + n')
      rcases Int.lt_trichotomy n n' with h | h | h
      · rw [mem_head (n := n') (by omega) (by omega)] at a
        rcases mem_cons_iff.1 a with a | a
        · simp at a
        · have := mem_lo l4 a; omega
      · exact h
      · rw [mem_head (n := n) (by omega) (by omega)] at b
        rcases mem_cons_iff.1 b.symm with b | b
        · simp at b
        · have := mem_lo m4 b; omega
    subst hn
    congr 1
    refine right_ext l4 m4 fun x => ?_
    by_cases hx : s + n + 1 ≤ x
    · have h := he x
      have e1 : inSp (s, n) x = false := by simp [inSp]; omega
      simpa [memF, e1] using h
    · rw [mem_not l4 (by omega), mem_not m4 (by omega)]

/-- Numbers f to t - 1 put behind a list that stands in reverse. -/
def addR : List Sp → Int → Int → List Sp
  | [], f, t => [(f, t - f)]
  | p :: r, f, t => if p.1 + p.2 = f then (p.1, p.2 + (t - f)) :: r else (f, t - f) :: p :: r
def buildR (S : Int → Bool) : Nat → List Sp
  | 0 => []
  | k + 1 => if S k then addR (buildR S k) k (k + 1) else buildR S k
def canon (S : Int → Bool) : List Sp := (buildR S 4096).reverse

structure BuiltR (S : Int → Bool) (k : Int) (R : List Sp) : Prop where
  right : rightF 0 R.reverse = true
  ends : endF 0 R.reverse ≤ k + 1
  mem : ∀ n, memF R.reverse n = (decide (0 ≤ n ∧ n < k) && S n)
theorem mem_app (a b : List Sp) (n : Int) : memF (a ++ b) n = (memF a n || memF b n) := by simp [memF]
theorem built_step {S : Int → Bool} {k : Nat} {R : List Sp} (hk : k < 4096) (h : BuiltR S k R) : BuiltR S (k + 1 : Nat) (if S k then addR R k (k + 1) else R) := by
  obtain ⟨h1, h2, h3⟩ := h
  by_cases hS : S k = true
  · rw [if_pos hS]
    have hnew (n : Int) (a : Bool) (e : a = (decide (0 ≤ n ∧ n < k) && S n)) : (a || decide (n = k)) = (decide (0 ≤ n ∧ n < (k + 1 : Nat)) && S n) := by
      rw [e, Bool.eq_iff_iff]
      simp only [Bool.or_eq_true, Bool.and_eq_true, decide_eq_true_eq]
      constructor
      · rintro (⟨a, b⟩ | rfl)
        · exact ⟨by omega, b⟩
        · exact ⟨by omega, hS⟩
      · rintro ⟨a, b⟩
        by_cases e : n = k
        · exact .inr e
        · exact .inl ⟨by omega, b⟩
    have hone (n : Int) : memF [((k : Int), (k : Int) + 1 - k)] n = decide (n = k) := by
      rw [Bool.eq_iff_iff, mem_iff]; simp; omega
    rcases R with _ | ⟨⟨s, m⟩, r⟩
    · refine ⟨right_mk (by omega) (by omega) (by omega) rfl, by simp [addR, endF]; omega, fun n => ?_⟩
      rw [← hnew n _ (h3 n)]
      exact (hone n).trans (by simp [memF])
    · rw [List.reverse_cons] at h1 h2 h3
      simp only [right_app, end_app, endF, Bool.and_eq_true] at h1 h2
      obtain ⟨g1, g2⟩ := h1
      obtain ⟨g3, g4, g5, _⟩ := right_cons g2
      simp only [addR]
      split
      · rename_i e
        refine ⟨?_, ?_, fun n => ?_⟩
        · rw [List.reverse_cons, right_app, g1]
          exact right_mk g3 (by omega) (by omega) rfl
        · rw [List.reverse_cons, end_app]; simp only [endF]; omega
        · rw [← hnew n _ (h3 n), List.reverse_cons, mem_app, mem_app, Bool.or_assoc]
          congr 1
          rw [Bool.eq_iff_iff, Bool.or_eq_true, mem_iff, mem_iff]; simp; omega
      · rename_i e
        refine ⟨?_, ?_, fun n => ?_⟩
        · rw [List.reverse_cons, List.reverse_cons, right_app, right_app, g1, end_app]
          simp only [Bool.true_and, g2, endF]
          exact right_mk (by omega) (by omega) (by omega) rfl
        · rw [List.reverse_cons, end_app]; simp only [endF]; omega
        · rw [← hnew n _ (h3 n), List.reverse_cons, List.reverse_cons, mem_app, hone]
  · rw [if_neg hS]
    refine ⟨h1, by omega, fun n => ?_⟩
    rw [h3, Bool.eq_iff_iff]
    simp only [Bool.and_eq_true, decide_eq_true_eq]
    constructor
    · rintro ⟨a, b⟩; exact ⟨by omega, b⟩
    · rintro ⟨a, b⟩
      refine ⟨?_, b⟩
      by_cases e : n = k
      · subst e; exact absurd b hS
      · omega
theorem build_built (S : Int → Bool) : ∀ k : Nat, k ≤ 4096 → BuiltR S k (buildR S k)
  | 0, _ => ⟨rfl, by simp [buildR, endF], fun n => by simp [buildR, memF]; omega⟩
  | k + 1, h => built_step (by omega) (build_built S k (by omega))
theorem canon_right (S : Int → Bool) : rightF 0 (canon S) = true := (build_built S 4096 (Nat.le_refl _)).right
theorem canon_mem (S : Int → Bool) (n : Int) : memF (canon S) n = (decide (0 ≤ n ∧ n < 4096) && S n) := (build_built S 4096 (Nat.le_refl _)).mem n
theorem canon_of {l : List Sp} (h : rightF 0 l = true) : canon (memF l) = l := by
  refine right_ext (canon_right _) h fun n => ?_
  rw [canon_mem]
  cases hm : memF l n
  · simp
  · have := mem_lo h hm
    simp; omega
theorem canon_congr {S T : Int → Bool} (h : ∀ n, 0 ≤ n → n < 4096 → S n = T n) : canon S = canon T := by
  refine right_ext (canon_right _) (canon_right _) fun n => ?_
  rw [canon_mem, canon_mem]
  by_cases hn : 0 ≤ n ∧ n < 4096
  · rw [h n hn.1 hn.2]
  · simp [hn]
theorem canon_eq {l : List Sp} {S : Int → Bool} (h : rightF 0 l = true) (he : ∀ n, 0 ≤ n → n < 4096 → S n = memF l n) : canon S = l :=
  (canon_congr he).trans (canon_of h)

/-- A stretch at once. -/
theorem addR_hit {s n f t : Int} {r : List Sp} (h : s + n = f) : addR ((s, n) :: r) f t = (s, n + (t - f)) :: r := if_pos h
theorem addR_miss {s n f t : Int} {r : List Sp} (h : s + n ≠ f) : addR ((s, n) :: r) f t = (f, t - f) :: (s, n) :: r := if_neg h
theorem addR_addR (R : List Sp) (f t u : Int) : addR (addR R f t) t u = addR R f u := by
  rcases R with _ | ⟨⟨s, n⟩, r⟩
  · show addR [(f, t - f)] t u = [(f, u - f)]
    rw [addR_hit (by omega)]
    congr 2; omega
  · by_cases e : s + n = f
    · rw [addR_hit e, addR_hit e, addR_hit (by omega)]
      congr 2; omega
    · rw [addR_miss e, addR_miss e, addR_hit (by omega)]
      congr 2; omega
theorem addR_zero_succ (R : List Sp) (S : Int → Bool) (f : Nat) : ∀ d : Nat, (∀ n : Int, f ≤ n → n < f + d + 1 → S n = true) → buildR S (f + d + 1) = addR (buildR S f) f (f + d + 1 : Nat)
  | 0, h => by
    show (if S (f : Nat) then _ else _) = _
    rw [if_pos (h f (by omega) (by omega))]
    simp
  | d + 1, h => by
    have ih := addR_zero_succ R S f d fun n a b => h n a (by omega)
    show (if S ((f + d + 1 : Nat)) then _ else _) = _
    rw [if_pos (h _ (by omega) (by omega)), show f + (d + 1) = f + d + 1 from by omega, ih, addR_addR]
    congr 1
theorem build_yes {S : Int → Bool} {f t : Nat} (hft : f < t) (h : ∀ n : Int, f ≤ n → n < t → S n = true) : buildR S t = addR (buildR S f) f t := by
  obtain ⟨d, rfl⟩ : ∃ d, t = f + d + 1 := ⟨t - f - 1, by omega⟩
  exact addR_zero_succ [] S f d fun n a b => h n a (by omega)
theorem build_no {S : Int → Bool} {f : Nat} : ∀ {t : Nat}, f ≤ t → (∀ n : Int, f ≤ n → n < t → S n = false) → buildR S t = buildR S f
  | t, hft, h => by
    rcases Nat.lt_or_ge f t with hlt | hge
    · obtain ⟨d, rfl⟩ : ∃ d, t = d + 1 := ⟨t - 1, by omega⟩
      show (if S d then _ else _) = _
      rw [h d (by omega) (by omega)]
      exact build_no (by omega) fun n a b => h n a (by omega)
    · rw [show t = f from by omega]

/-- How many. -/
def total : List Sp → Int
  | [] => 0
  | p :: r => p.2 + total r
theorem total_app (m : List Sp) : ∀ l, total (l ++ m) = total l + total m
  | [] => by simp [total]
  | p :: r => by simp only [List.cons_append, total, total_app m r]; omega
def cnt (S : Int → Bool) : Nat → Int
  | 0 => 0
  | k + 1 => cnt S k + if S k then 1 else 0
theorem total_add (R : List Sp) (f t : Int) : total (addR R f t).reverse = total R.reverse + (t - f) := by
  rcases R with _ | ⟨⟨s, n⟩, r⟩
  · simp [addR, total]
  · simp only [addR]
    split <;> simp only [List.reverse_cons, total_app, total] <;> omega
theorem total_build (S : Int → Bool) : ∀ k, total (buildR S k).reverse = cnt S k
  | 0 => rfl
  | k + 1 => by
    simp only [buildR, cnt]
    split
    · rw [total_add, total_build S k]; omega
    · rw [total_build S k]; omega
theorem total_right : ∀ {l : List Sp} {f : Int}, 0 ≤ f → f ≤ 4097 → rightF f l = true → 0 ≤ total l ∧ total l ≤ 4097 - f
  | [], f, _, h, _ => by simp only [total]; omega
  | (s, n) :: r, f, h0, _, h => by
    obtain ⟨h1, h2, h3, h4⟩ := right_cons h
    have := total_right (by omega) (by omega) h4
    simp only [total]; omega
theorem right_len : ∀ {l : List Sp} {f : Int}, 0 ≤ f → f ≤ 4097 → rightF f l = true → (l.length : Int) ≤ 4097 - f
  | [], f, _, h, _ => by simp; omega
  | (s, n) :: r, f, h0, _, h => by
    obtain ⟨h1, h2, h3, h4⟩ := right_cons h
    have := right_len (by omega) (by omega) h4
    simp only [List.length_cons]; omega
theorem cnt_add {S T U V : Int → Bool} (h : ∀ n : Int, 0 ≤ n → n < 4096 → ((if S n then 1 else 0) + (if T n then 1 else 0) : Int) = (if U n then 1 else 0) + (if V n then 1 else 0)) : ∀ k : Nat, k ≤ 4096 → cnt S k + cnt T k = cnt U k + cnt V k
  | 0, _ => rfl
  | k + 1, hk => by
    have := cnt_add h k (by omega)
    have := h k (by omega) (by omega)
    simp only [cnt]; omega
end Go.Proofs.Ytddhacmaogaocaa
