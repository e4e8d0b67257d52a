/- The texts K P W1 W2 W3 W4 W5 W6 W7 W8 W9 W10. -/
import Derived.Test.YtdcegkeaopjbnaaRows
import Derived.WalkKit
import Derived.WalkSpells
import Derived.WalkLawsBesides
import Derived.Lib.Hide
import Derived.KernelRfl
import Derived.Deep.Draws
import Derived.Deep.QuietTactic
import Derived.BigQuiet
import Derived.Maps.AppendAt
import Derived.Deep.WholeRow
import Derived.RangeFuncNested
import Derived.RangeFuncBound
import Derived.RangeFuncCalls
import Derived.RangeFuncLeaves
import Derived.RangeFuncBox
import Derived.Shelf.Abstract
import Derived.Shelf.RegionOpen
import Derived.OwnWalkIn
import Derived.TacticsInMore
import Derived.LoopNIn
import Derived.LoopIn
import Derived.Laws.AppendOwnNone
set_option maxRecDepth 10000
namespace Go.Proofs.Ytdcegkeaopjbnaa

section
open Go.RowKit

theorem ret_bool {a b : Bool} (h : a = b) : Ending.returned (.bool a) = Ending.returned (.bool b) := by rw [h]
theorem ret_int {k : IntKind} {a b : Int} (h : a = b) : Ending.returned (.int k a) = Ending.returned (.int k b) := by rw [h]
theorem ret_val {a b : Value} (h : a = b) : Ending.returned a = Ending.returned b := by rw [h]

theorem bcell {W w1 : World} {B : Nat} (hb : Below B W w1) : (∀ b o, b < B → w1.cell? ⟨b, o, none⟩ = W.cell? ⟨b, o, none⟩) ∧ (∀ b o, b < B → w1.frozen? ⟨b, o, none⟩ = W.frozen? ⟨b, o, none⟩) :=
  ⟨fun b o h => hb.cell (p := ⟨b, o, none⟩) h, fun b o h => hb.frozen (p := ⟨b, o, none⟩) h⟩

theorem below_draws {B : Nat} {a w : World} (h : Below B a w) (n : Nat) : Below B a (w.drewN n) := ⟨h.os, h.tape, h.output, h.size, h.block⟩

def I64 (x : Int) : Prop := -9223372036854775808 ≤ x ∧ x ≤ 9223372036854775807

/-- The cells xs lie from A on, in a block below B. -/
def Rd (w : World) (B : Nat) (A : Option Addr) (xs : List Value) : Prop :=
  0 < xs.length → ∃ b off, A = some ⟨b, off, none⟩ ∧ b < B ∧ ∀ j v, xs[j]? = some v → w.cell? ⟨b, off + j, none⟩ = some v

section
variable {w w' : World} {B B' : Nat} {A : Option Addr} {xs : List Value}
theorem Rd.below (h : Rd w B A xs) (hb : Below B w w') : Rd w' B A xs := fun hn =>
  let ⟨b, off, e, hl, hc⟩ := h hn
  ⟨b, off, e, hl, fun j v hv => (hb.cell (p := ⟨b, off + j, none⟩) hl).trans (hc j v hv)⟩
theorem Rd.mono (h : Rd w B A xs) (hB : B ≤ B') : Rd w B' A xs := fun hn =>
  let ⟨b, off, e, hl, hc⟩ := h hn
  ⟨b, off, e, Nat.lt_of_lt_of_le hl hB, hc⟩
theorem Rd.nil : Rd w B A [] := fun h => absurd h (by simp)
theorem Rd.at_ (h : Rd w B A xs) (j : Nat) (v : Value) (hv : xs[j]? = some v) : ∃ b off, A = some ⟨b, off, none⟩ ∧ b < B ∧ w.cell? ⟨b, off + j, none⟩ = some v := by
  have hn : 0 < xs.length := by
    have := (List.getElem?_eq_some_iff.1 hv).1
    omega
  obtain ⟨b, off, e, hl, hc⟩ := h hn
  exact ⟨b, off, e, hl, hc j v hv⟩
theorem Rd.drop {b off k : Nat} (h : Rd w B (some ⟨b, off, none⟩) xs) : Rd w B (some ⟨b, off + k, none⟩) (xs.drop k) := fun hn => by
  rw [List.length_drop] at hn
  obtain ⟨b', off', e, hl, hc⟩ := h (by omega)
  simp only [Option.some.injEq, Addr.mk.injEq, and_true] at e
  obtain ⟨rfl, rfl⟩ := e
  exact ⟨b, off + k, rfl, hl, fun j v hv => by rw [Nat.add_assoc]; exact hc (k + j) v (by rw [← hv, List.getElem?_drop])⟩
end

section
variable {w w' : World} {base B e size n : Nat} {v : Value} {xs : List Value}
theorem own_rd (h : w.ownsRow base e size v n xs) : ∃ A c, v = .slice A n c ∧ Rd w w.heap.size A xs ∧ n ≤ c := by
  rcases h.2 with ⟨rfl, rfl⟩ | ⟨g, cap, cur, rfl, _, hg, hnc, _⟩
  · refine ⟨none, 0, rfl, fun hn => ?_, Nat.le_refl _⟩
    have := h.1
    omega
  · have hlt : g < w.heap.size := by
      rcases Nat.lt_or_ge g w.heap.size with hlt | hge
      · exact hlt
      · rw [Array.getElem?_eq_none hge] at hg; cases hg
    refine ⟨some ⟨g, 0, none⟩, cap, rfl, fun _ => ⟨g, 0, rfl, hlt, fun j u hu => ?_⟩, hnc⟩
    have hj : j < n * size := by
      have := (List.getElem?_eq_some_iff.1 hu).1
      rw [h.1] at this; exact this
    rw [Nat.zero_add]
    exact (h.cellAt j hj).trans hu
theorem own_below (h : w.ownsRow base e size v n xs) (hb : Below B w w') (hB : ∀ g, v.ownBlock = some g → g < B) : w'.ownsRow base e size v n xs := by
  refine ⟨h.1, ?_⟩
  rcases h.2 with h0 | ⟨g, cap, cur, rfl, hbg, hg, hrest⟩
  · exact .inl h0
  · exact .inr ⟨g, cap, cur, rfl, hbg, (hb.block g (hB g rfl)).trans hg, hrest⟩
theorem own_far (h : w.ownsRow base e size v n xs) (hb : Below w.heap.size w w') : w'.ownsRow base e size v n xs :=
  own_below h hb fun g hg => (h.lt g hg).2
theorem own_base {base' : Nat} (h : w.ownsRow base e size v n xs) (hB : base' ≤ base) : w.ownsRow base' e size v n xs := by
  refine ⟨h.1, ?_⟩
  rcases h.2 with h0 | ⟨g, cap, cur, rfl, hbg, hrest⟩
  · exact .inl h0
  · exact .inr ⟨g, cap, cur, rfl, Nat.le_trans hB hbg, hrest⟩
theorem own_form (h : w.ownsRow base e size v n xs) (hn : 0 < n) : ∃ g cap, v = .slice (some ⟨g, 0, none⟩) n cap ∧ base ≤ g ∧ g < w.heap.size ∧ n ≤ cap := by
  rcases h.2 with ⟨_, h0⟩ | ⟨g, cap, cur, rfl, hbg, _, hnc, _⟩
  · omega
  · exact ⟨g, cap, rfl, hbg, (h.lt g rfl).2, hnc⟩
theorem below_own {w0 : World} {B0 : Nat} (hb : Below B0 w0 w) (h : w.ownsRow base e size v n xs) (hB0 : B0 ≤ base) (hB1 : B0 ≤ w.heap.size) (hg : w.grownBy w' v.ownBlock) : Below B0 w0 w' :=
  hb.grown hg hB1 fun k hk => Nat.le_trans hB0 (h.lt k hk).1
end

/-- Block g is just the cells cs, none frozen. -/
def Blk (w : World) (g : Nat) (t : TypeId) (cs : Array Value) : Prop := w.heap[g]? = some (.cells cs t (0, 0))
section
variable {w w' : World} {g : Nat} {t : TypeId} {cs : Array Value}
theorem Blk.lt (h : Blk w g t cs) : g < w.heap.size := by
  rcases Nat.lt_or_ge g w.heap.size with hlt | hge
  · exact hlt
  · unfold Blk at h; rw [Array.getElem?_eq_none hge] at h; cases h
theorem Blk.cell (h : Blk w g t cs) (i : Nat) : w.cell? ⟨g, i, none⟩ = cs[i]? := cell_of_row w g i cs t (0, 0) h
theorem Blk.frozen (h : Blk w g t cs) (i : Nat) : w.frozen? ⟨g, i, none⟩ = false := by
  unfold Blk at h
  simp [World.frozen?, h]
theorem Blk.new (w : World) (t : TypeId) (cs : Array Value) : Blk (w.alloc (.cells cs t)) w.heap.size t cs := heap_alloc_new w _
theorem Blk.set_ (h : Blk w g t cs) (i : Nat) (u : Value) : Blk (w.setCell ⟨g, i, none⟩ u) g t (cs.setIfInBounds i u) := by
  unfold Blk at h ⊢
  simp [World.setCell, Array.getElem?_modify, h]
theorem Blk.far (h : Blk w g t cs) {p : Addr} (hp : g ≠ p.block) (u : Value) : Blk (w.setCell p u) g t cs := (Below.heap_setCell w p u g hp).trans h
theorem Blk.below {B : Nat} (h : Blk w g t cs) (hb : Below B w w') (hg : g < B) : Blk w' g t cs := (hb.block g hg).trans h
end
end
section
open Go.RowKit

abbrev Sp := Int × Int
def spc (l : List Sp) : List Value := l.flatMap fun p => [.int .i64 p.1, .int .i64 p.2]
theorem spc_nil : spc [] = [] := rfl
theorem spc_cons (p : Sp) (l : List Sp) : spc (p :: l) = .int .i64 p.1 :: .int .i64 p.2 :: spc l := rfl
theorem spc_app (a b : List Sp) : spc (a ++ b) = spc a ++ spc b := by simp [spc]
theorem spc_len (l : List Sp) : (spc l).length = l.length * 2 := by
  induction l with
  | nil => rfl
  | cons p r ih => simp only [spc_cons, List.length_cons, ih]; omega
theorem spc_at (l : List Sp) : ∀ k (h : k < l.length), (spc l)[k * 2]? = some (.int .i64 l[k].1) ∧ (spc l)[k * 2 + 1]? = some (.int .i64 l[k].2) := by
  induction l with
  | nil => intro k h; simp at h
  | cons p r ih =>
    intro k h
    rcases k with _ | k
    · exact ⟨rfl, rfl⟩
    · have := ih k (by simpa using h)
      rw [spc_cons]
      rw [show (k + 1) * 2 = k * 2 + 1 + 1 from by omega]
      simpa using this
theorem spc_one {l : List Sp} : ∀ u ∈ spc l, u.oneCell' = true := by
  intro u hu
  simp only [spc, List.mem_flatMap, List.mem_cons, List.not_mem_nil, or_false] at hu
  obtain ⟨p, _, rfl | rfl⟩ := hu <;> rfl
theorem spc_inj : ∀ {l m : List Sp}, spc l = spc m → l = m
  | [], [], _ => rfl
  | [], p :: r, h => by simp [spc] at h
  | p :: r, [], h => by simp [spc] at h
  | p :: r, q :: s, h => by
    simp only [spc_cons, List.cons.injEq, Value.int.injEq, true_and] at h
    rw [spc_inj h.2.2, Prod.ext h.1 h.2.1]

def SpOk (l : List Sp) : Prop := ∀ p ∈ l, I64 p.1 ∧ I64 p.2

def rightF : Int → List Sp → Bool
  | _, [] => true
  | f, p :: r => if p.1 < f ∨ p.2 < 1 ∨ 4096 - p.1 < p.2 then false else rightF (p.1 + p.2 + 1) r

theorem rightF_no {g s n : Int} {r : List Sp} (h : s < g ∨ n < 1 ∨ 4096 - s < n) : rightF g ((s, n) :: r) = false := by
  simp [rightF, h]
theorem rightF_yes {g s n : Int} {r : List Sp} (h : ¬ (s < g ∨ n < 1 ∨ 4096 - s < n)) : rightF g ((s, n) :: r) = rightF (s + n + 1) r := by
  simp only [rightF]; rw [if_neg h]
theorem right_cons {g s n : Int} {r : List Sp} (h : rightF g ((s, n) :: r) = true) : g ≤ s ∧ 1 ≤ n ∧ s + n ≤ 4096 ∧ rightF (s + n + 1) r = true := by
  by_cases hb : s < g ∨ n < 1 ∨ 4096 - s < n
  · rw [rightF_no hb] at h; cases h
  · rw [rightF_yes hb] at h
    exact ⟨by omega, by omega, by omega, h⟩
theorem right_mk {g s n : Int} {r : List Sp} (h1 : g ≤ s) (h2 : 1 ≤ n) (h3 : s + n ≤ 4096) (h : rightF (s + n + 1) r = true) : rightF g ((s, n) :: r) = true := by
  rw [rightF_yes (by omega)]; exact h
def endF : Int → List Sp → Int
  | f, [] => f
  | _, p :: r => endF (p.1 + p.2 + 1) r
theorem right_app (m : List Sp) : ∀ (l : List Sp) (f : Int), rightF f (l ++ m) = (rightF f l && rightF (endF f l) m)
  | [], f => by simp [rightF, endF]
  | (s, n) :: r, f => by
    by_cases hb : s < f ∨ n < 1 ∨ 4096 - s < n
    · rw [List.cons_append, rightF_no hb, rightF_no hb]; rfl
    · rw [List.cons_append, rightF_yes hb, rightF_yes hb, right_app m r]; rfl
theorem end_app (m : List Sp) : ∀ (l : List Sp) (f : Int), endF f (l ++ m) = endF (endF f l) m
  | [], _ => rfl
  | (s, n) :: r, f => by rw [List.cons_append]; exact end_app m r _
theorem right_mono {l : List Sp} {f g : Int} (hg : g ≤ f) (h : rightF f l = true) : rightF g l = true := by
  rcases l with _ | ⟨⟨s, n⟩, r⟩
  · rfl
  · obtain ⟨h1, h2, h3, h4⟩ := right_cons h
    exact right_mk (by omega) h2 h3 h4
theorem right_mem : ∀ {l : List Sp} {f : Int}, rightF f l = true → ∀ p ∈ l, f ≤ p.1 ∧ 1 ≤ p.2 ∧ p.1 + p.2 ≤ 4096
  | [], _, _, p, hp => by simp at hp
  | (s, n) :: r, f, h, p, hp => by
    obtain ⟨h1, h2, h3, h4⟩ := right_cons h
    rcases List.mem_cons.1 hp with rfl | hp
    · exact ⟨h1, h2, h3⟩
    · have := right_mem h4 p hp
      omega
theorem right_ok {l : List Sp} {f : Int} (hf : 0 ≤ f) (h : rightF f l = true) : SpOk l := fun p hp => by
  have := right_mem h p hp
  unfold I64
  omega

def inSp (p : Sp) (n : Int) : Bool := decide (p.1 ≤ n) && decide (n < p.1 + p.2)
def memF (l : List Sp) (n : Int) : Bool := l.any fun p => inSp p n
theorem mem_iff {l : List Sp} {n : Int} : memF l n = true ↔ ∃ p ∈ l, p.1 ≤ n ∧ n < p.1 + p.2 := by
  simp [memF, inSp]
theorem mem_cons_iff {p : Sp} {l : List Sp} {n : Int} : memF (p :: l) n = true ↔ (p.1 ≤ n ∧ n < p.1 + p.2) ∨ memF l n = true := by
  simp [memF, inSp]
theorem mem_head {s n x : Int} {r : List Sp} (h1 : s ≤ x) (h2 : x < s + n) : memF ((s, n) :: r) x = true := mem_cons_iff.2 (.inl ⟨h1, h2⟩)
theorem mem_lo {l : List Sp} {f n : Int} (h : rightF f l = true) (hm : memF l n = true) : f ≤ n ∧ n < 4096 := by
  obtain ⟨p, hp, h1, h2⟩ := mem_iff.1 hm
  have := right_mem h p hp
  omega
theorem mem_not {l : List Sp} {f n : Int} (h : rightF f l = true) (hn : n < f ∨ 4096 ≤ n) : memF l n = false := by
  cases hm : memF l n
  · rfl
  · have := mem_lo h hm
    omega
/-- Sets with the same numbers are the same lists. -/
theorem right_ext : ∀ {l m : List Sp} {f : Int}, rightF f l = true → rightF f m = true → (∀ n, memF l n = memF m n) → l = m
  | [], [], _, _, _, _ => rfl
  | [], (s, n) :: r, f, _, hm, he => by
    obtain ⟨_, h2, _⟩ := right_cons hm
    have h := he s
    rw [mem_head (Int.le_refl _) (by omega)] at h
    simp [memF] at h
  | (s, n) :: r, [], f, hl, _, he => by
    obtain ⟨_, h2, _⟩ := right_cons hl
    have h := he s
    rw [mem_head (Int.le_refl _) (by omega)] at h
    simp [memF] at h
  | (s, n) :: r, (s', n') :: r', f, hl, hm, he => by
    obtain ⟨l1, l2, l3, l4⟩ := right_cons hl
    obtain ⟨m1, m2, m3, m4⟩ := right_cons hm
    have hs : s = s' := by
      have a := he s
      have b := he s'
      rw [mem_head (Int.le_refl _) (by omega)] at a
      rw [mem_head (s := s') (n := n') (Int.le_refl _) (by omega)] at b
      rcases mem_cons_iff.1 a.symm with a | a
      · rcases mem_cons_iff.1 b with b | b
        · simp at a b; omega
        · have := mem_lo l4 b; simp at a; omega
      · rcases mem_cons_iff.1 b with b | b
        · have := mem_lo m4 a; simp at b; omega
        · have := mem_lo m4 a; have := mem_lo l4 b; omega
    subst hs
    have hn : n = n' := by
      have a := he (s + n)
      have b := he (s + n')
      rcases Int.lt_trichotomy n n' with h | h | h
      · rw [mem_head (n := n') (by omega) (by omega)] at a
        rcases mem_cons_iff.1 a with a | a
        · simp at a
        · have := mem_lo l4 a; omega
      · exact h
      · rw [mem_head (n := n) (by omega) (by omega)] at b
        rcases mem_cons_iff.1 b.symm with b | b
        · simp at b
        · have := mem_lo m4 b; omega
    subst hn
    congr 1
    refine right_ext l4 m4 fun x => ?_
    by_cases hx : s + n + 1 ≤ x
    · have h := he x
      have e1 : inSp (s, n) x = false := by simp [inSp]; omega
      simpa [memF, e1] using h
    · rw [mem_not l4 (by omega), mem_not m4 (by omega)]

/-- Numbers f to t - 1 put behind a list that stands in reverse. -/
def addR : List Sp → Int → Int → List Sp
  | [], f, t => [(f, t - f)]
  | p :: r, f, t => if p.1 + p.2 = f then (p.1, p.2 + (t - f)) :: r else (f, t - f) :: p :: r
def buildR (S : Int → Bool) : Nat → List Sp
  | 0 => []
  | k + 1 => if S k then addR (buildR S k) k (k + 1) else buildR S k
def canon (S : Int → Bool) : List Sp := (buildR S 4096).reverse

structure BuiltR (S : Int → Bool) (k : Int) (R : List Sp) : Prop where
  right : rightF 0 R.reverse = true
  ends : endF 0 R.reverse ≤ k + 1
  mem : ∀ n, memF R.reverse n = (decide (0 ≤ n ∧ n < k) && S n)
theorem mem_app (a b : List Sp) (n : Int) : memF (a ++ b) n = (memF a n || memF b n) := by simp [memF]
theorem built_step {S : Int → Bool} {k : Nat} {R : List Sp} (hk : k < 4096) (h : BuiltR S k R) : BuiltR S (k + 1 : Nat) (if S k then addR R k (k + 1) else R) := by
  obtain ⟨h1, h2, h3⟩ := h
  by_cases hS : S k = true
  · rw [if_pos hS]
    have hnew (n : Int) (a : Bool) (e : a = (decide (0 ≤ n ∧ n < k) && S n)) : (a || decide (n = k)) = (decide (0 ≤ n ∧ n < (k + 1 : Nat)) && S n) := by
      rw [e, Bool.eq_iff_iff]
      simp only [Bool.or_eq_true, Bool.and_eq_true, decide_eq_true_eq]
      constructor
      · rintro (⟨a, b⟩ | rfl)
        · exact ⟨by omega, b⟩
        · exact ⟨by omega, hS⟩
      · rintro ⟨a, b⟩
        by_cases e : n = k
        · exact .inr e
        · exact .inl ⟨by omega, b⟩
    have hone (n : Int) : memF [((k : Int), (k : Int) + 1 - k)] n = decide (n = k) := by
      rw [Bool.eq_iff_iff, mem_iff]; simp; omega
    rcases R with _ | ⟨⟨s, m⟩, r⟩
    · refine ⟨right_mk (by omega) (by omega) (by omega) rfl, by simp [addR, endF]; omega, fun n => ?_⟩
      rw [← hnew n _ (h3 n)]
      exact (hone n).trans (by simp [memF])
    · rw [List.reverse_cons] at h1 h2 h3
      simp only [right_app, end_app, endF, Bool.and_eq_true] at h1 h2
      obtain ⟨g1, g2⟩ := h1
      obtain ⟨g3, g4, g5, _⟩ := right_cons g2
      simp only [addR]
      split
      · rename_i e
        refine ⟨?_, ?_, fun n => ?_⟩
        · rw [List.reverse_cons, right_app, g1]
          exact right_mk g3 (by omega) (by omega) rfl
        · rw [List.reverse_cons, end_app]; simp only [endF]; omega
        · rw [← hnew n _ (h3 n), List.reverse_cons, mem_app, mem_app, Bool.or_assoc]
          congr 1
          rw [Bool.eq_iff_iff, Bool.or_eq_true, mem_iff, mem_iff]; simp; omega
      · rename_i e
        refine ⟨?_, ?_, fun n => ?_⟩
        · rw [List.reverse_cons, List.reverse_cons, right_app, right_app, g1, end_app]
          simp only [Bool.true_and, g2, endF]
          exact right_mk (by omega) (by omega) (by omega) rfl
        · rw [List.reverse_cons, end_app]; simp only [endF]; omega
        · rw [← hnew n _ (h3 n), List.reverse_cons, List.reverse_cons, mem_app, hone]
  · rw [if_neg hS]
    refine ⟨h1, by omega, fun n => ?_⟩
    rw [h3, Bool.eq_iff_iff]
    simp only [Bool.and_eq_true, decide_eq_true_eq]
    constructor
    · rintro ⟨a, b⟩; exact ⟨by omega, b⟩
    · rintro ⟨a, b⟩
      refine ⟨?_, b⟩
      by_cases e : n = k
      · subst e; exact absurd b hS
      · omega
theorem build_built (S : Int → Bool) : ∀ k : Nat, k ≤ 4096 → BuiltR S k (buildR S k)
  | 0, _ => ⟨rfl, by simp [buildR, endF], fun n => by simp [buildR, memF]; omega⟩
  | k + 1, h => built_step (by omega) (build_built S k (by omega))
theorem canon_right (S : Int → Bool) : rightF 0 (canon S) = true := (build_built S 4096 (Nat.le_refl _)).right
theorem canon_mem (S : Int → Bool) (n : Int) : memF (canon S) n = (decide (0 ≤ n ∧ n < 4096) && S n) := (build_built S 4096 (Nat.le_refl _)).mem n
theorem canon_of {l : List Sp} (h : rightF 0 l = true) : canon (memF l) = l := by
  refine right_ext (canon_right _) h fun n => ?_
  rw [canon_mem]
  cases hm : memF l n
  · simp
  · have := mem_lo h hm
    simp; omega
theorem canon_congr {S T : Int → Bool} (h : ∀ n, 0 ≤ n → n < 4096 → S n = T n) : canon S = canon T := by
  refine right_ext (canon_right _) (canon_right _) fun n => ?_
  rw [canon_mem, canon_mem]
  by_cases hn : 0 ≤ n ∧ n < 4096
  · rw [h n hn.1 hn.2]
  · simp [hn]
theorem canon_eq {l : List Sp} {S : Int → Bool} (h : rightF 0 l = true) (he : ∀ n, 0 ≤ n → n < 4096 → S n = memF l n) : canon S = l :=
  (canon_congr he).trans (canon_of h)

/-- A stretch at once. -/
theorem addR_hit {s n f t : Int} {r : List Sp} (h : s + n = f) : addR ((s, n) :: r) f t = (s, n + (t - f)) :: r := if_pos h
theorem addR_miss {s n f t : Int} {r : List Sp} (h : s + n ≠ f) : addR ((s, n) :: r) f t = (f, t - f) :: (s, n) :: r := if_neg h
theorem addR_addR (R : List Sp) (f t u : Int) : addR (addR R f t) t u = addR R f u := by
  rcases R with _ | ⟨⟨s, n⟩, r⟩
  · show addR [(f, t - f)] t u = [(f, u - f)]
    rw [addR_hit (by omega)]
    congr 2; omega
  · by_cases e : s + n = f
    · rw [addR_hit e, addR_hit e, addR_hit (by omega)]
      congr 2; omega
    · rw [addR_miss e, addR_miss e, addR_hit (by omega)]
      congr 2; omega
theorem addR_zero_succ (R : List Sp) (S : Int → Bool) (f : Nat) : ∀ d : Nat, (∀ n : Int, f ≤ n → n < f + d + 1 → S n = true) → buildR S (f + d + 1) = addR (buildR S f) f (f + d + 1 : Nat)
  | 0, h => by
    show (if S (f : Nat) then _ else _) = _
    rw [if_pos (h f (by omega) (by omega))]
    simp
  | d + 1, h => by
    have ih := addR_zero_succ R S f d fun n a b => h n a (by omega)
    show (if S ((f + d + 1 : Nat)) then _ else _) = _
    rw [if_pos (h _ (by omega) (by omega)), show f + (d + 1) = f + d + 1 from by omega, ih, addR_addR]
    congr 1
theorem build_yes {S : Int → Bool} {f t : Nat} (hft : f < t) (h : ∀ n : Int, f ≤ n → n < t → S n = true) : buildR S t = addR (buildR S f) f t := by
  obtain ⟨d, rfl⟩ : ∃ d, t = f + d + 1 := ⟨t - f - 1, by omega⟩
  exact addR_zero_succ [] S f d fun n a b => h n a (by omega)
theorem build_no {S : Int → Bool} {f : Nat} : ∀ {t : Nat}, f ≤ t → (∀ n : Int, f ≤ n → n < t → S n = false) → buildR S t = buildR S f
  | t, hft, h => by
    rcases Nat.lt_or_ge f t with hlt | hge
    · obtain ⟨d, rfl⟩ : ∃ d, t = d + 1 := ⟨t - 1, by omega⟩
      show (if S d then _ else _) = _
      rw [h d (by omega) (by omega)]
      exact build_no (by omega) fun n a b => h n a (by omega)
    · rw [show t = f from by omega]

/-- How many. -/
def total : List Sp → Int
  | [] => 0
  | p :: r => p.2 + total r
theorem total_app (m : List Sp) : ∀ l, total (l ++ m) = total l + total m
  | [] => by simp [total]
  | p :: r => by simp only [List.cons_append, total, total_app m r]; omega
def cnt (S : Int → Bool) : Nat → Int
  | 0 => 0
  | k + 1 => cnt S k + if S k then 1 else 0
theorem total_add (R : List Sp) (f t : Int) : total (addR R f t).reverse = total R.reverse + (t - f) := by
  rcases R with _ | ⟨⟨s, n⟩, r⟩
  · simp [addR, total]
  · simp only [addR]
    split <;> simp only [List.reverse_cons, total_app, total] <;> omega
theorem total_build (S : Int → Bool) : ∀ k, total (buildR S k).reverse = cnt S k
  | 0 => rfl
  | k + 1 => by
    simp only [buildR, cnt]
    split
    · rw [total_add, total_build S k]; omega
    · rw [total_build S k]; omega
theorem total_right : ∀ {l : List Sp} {f : Int}, 0 ≤ f → f ≤ 4097 → rightF f l = true → 0 ≤ total l ∧ total l ≤ 4097 - f
  | [], f, _, h, _ => by simp only [total]; omega
  | (s, n) :: r, f, h0, _, h => by
    obtain ⟨h1, h2, h3, h4⟩ := right_cons h
    have := total_right (by omega) (by omega) h4
    simp only [total]; omega
theorem right_len : ∀ {l : List Sp} {f : Int}, 0 ≤ f → f ≤ 4097 → rightF f l = true → (l.length : Int) ≤ 4097 - f
  | [], f, _, h, _ => by simp; omega
  | (s, n) :: r, f, h0, _, h => by
    obtain ⟨h1, h2, h3, h4⟩ := right_cons h
    have := right_len (by omega) (by omega) h4
    simp only [List.length_cons]; omega
theorem cnt_add {S T U V : Int → Bool} (h : ∀ n : Int, 0 ≤ n → n < 4096 → ((if S n then 1 else 0) + (if T n then 1 else 0) : Int) = (if U n then 1 else 0) + (if V n then 1 else 0)) : ∀ k : Nat, k ≤ 4096 → cnt S k + cnt T k = cnt U k + cnt V k
  | 0, _ => rfl
  | k + 1, hk => by
    have := cnt_add h k (by omega)
    have := h k (by omega) (by omega)
    simp only [cnt]; omega
end
section
open Go.RowKit

theorem sp_at {w : World} {B : Nat} {A : Option Addr} {l : List Sp} (h : Rd w B A (spc l)) (k : Nat) (hk : k < l.length) :
    ∃ b off, A = some ⟨b, off, none⟩ ∧ b < B ∧ w.cell? ⟨b, off + k * 2, none⟩ = some (.int .i64 l[k].1) ∧ w.cell? ⟨b, off + k * 2 + 1, none⟩ = some (.int .i64 l[k].2) := by
  obtain ⟨h1, h2⟩ := spc_at l k hk
  obtain ⟨b, off, rfl, hl, hc⟩ := h (by rw [spc_len]; omega)
  exact ⟨b, off, rfl, hl, hc _ _ h1, hc _ _ h2⟩

set_option maxHeartbeats 400000 in
theorem end_any (s n : Int) (w : World) :
    Calls Try.prog 70 #[.agg #[.int .i64 s, .int .i64 n]] w fun e w' => e = .returned (.int .i64 (wrap64 (s + n))) ∧ Below w.heap.size w w' := by
  go_enter Try.func70, Try.ntmps70
  go_wp2
  go_ret
  exact ⟨rfl, (Below.refl _ _).alloc (Nat.le_refl _) _⟩

theorem end_in (s n : Int) (w : World) (h1 : -9223372036854775808 ≤ s + n) (h2 : s + n ≤ 9223372036854775807) :
    Calls Try.prog 70 #[.agg #[.int .i64 s, .int .i64 n]] w fun e w' => e = .returned (.int .i64 (s + n)) ∧ Below w.heap.size w w' := by
  have h := end_any s n w
  rw [IntWalk.wrap64_in _ ⟨h1, h2⟩] at h
  exact h

set_option maxHeartbeats 400000 in
theorem right_any (A : Option Addr) (c : Nat) (l : List Sp) (w : World) (hs : Rd w w.heap.size A (spc l)) (hok : SpOk l) (hl : l.length ≤ 4503599627370496) :
    Calls Try.prog 64 #[.slice A l.length c] w fun e w' => e = .returned (.bool (rightF 0 l)) ∧ Below w.heap.size w w' := by
  go_enter Try.func64, Try.ntmps64
  go_wp2
  go_loopw [3, 8] (fun f i wr => ∃ (k : Nat) (g : Int), k ≤ l.length ∧ 0 ≤ g ∧ g ≤ 4097 ∧ i = .int .i64 k ∧ f = .int .i64 g ∧ rightF g (l.drop k) = rightF 0 l ∧ Below w.heap.size w wr) (fun _ i _ => l.length - (intOf i).toNat)
  case atStart => exact ⟨0, 0, by omega, by omega, by omega, rfl, rfl, rfl, Below.refl _ _⟩
  case round =>
    obtain ⟨k, g, hk, hg0, hg1, rfl, rfl, hr, hb⟩ := hrel
    by_cases hlt : k < l.length
    · obtain ⟨b, off, rfl, hbB, hc1, hc2⟩ := sp_at hs k hlt
      obtain ⟨hc, hf⟩ := bcell hb
      obtain ⟨hs1, hs2⟩ := hok _ (List.getElem_mem hlt)
      rw [List.drop_eq_getElem_cons hlt] at hr
      generalize l[k] = p at *
      obtain ⟨s, n⟩ := p
      unfold I64 at hs1 hs2
      simp only at hc1 hc2 hs1 hs2
      have hsz := hb.size
      have Hr := Lib.hid hr; clear hr
      by_cases hbad : s < g ∨ n < 1 ∨ 4096 - s < n
      · have hF := rightF_no (r := l.drop (k + 1)) hbad
        have HF : Hid (false = rightF 0 l) := by rw [← Hr.out, hF]; exact rfl
        clear hF
        by_cases h1 : s < g
        · go_wp2_with fail
          go_ret
          exact ⟨ret_bool HF.out, hb.alloc (by omega) _⟩
        · by_cases h2 : n < 1
          · go_wp2_with fail
            go_ret
            exact ⟨ret_bool HF.out, hb.alloc (by omega) _⟩
          · have h3 : 4096 - s < n := by omega
            go_wp2_with fail
            go_ret
            exact ⟨ret_bool HF.out, hb.alloc (by omega) _⟩
      · have hF := rightF_yes (r := l.drop (k + 1)) hbad
        have HF : Hid (rightF (s + n + 1) (l.drop (k + 1)) = rightF 0 l) := by rw [← Hr.out, hF]; exact rfl
        clear hF
        have h1 : g ≤ s := by omega
        have h2 : 1 ≤ n := by omega
        have h3 : n ≤ 4096 - s := by omega
        clear hbad
        go_wp2_with (go_at_call 70; refine (end_in _ _ _ (by omega) (by omega)).mono ?_; rintro e w' ⟨rfl, hb2⟩)
        go_roundw
        case rel => exact ⟨k + 1, s + n + 1, by omega, by omega, by omega, by go_num, by go_num, HF.out, (hb.alloc (by omega) _).trans (hb2.mono (by simp; omega))⟩
        case measure => simp [intOf]; omega
    · rw [List.drop_of_length_le (by omega)] at hr
      have Hr := Lib.hid hr; clear hr
      go_wp2_with fail
      go_ret
      exact ⟨ret_bool Hr.out, hb⟩

/-- The two lists are one from k on. -/
theorem take_ne {α : Type} {l m : List α} {k : Nat} (h1 : k < l.length) (h2 : k < m.length) (h : l[k] ≠ m[k]) : l ≠ m := by
  rintro rfl; exact h rfl
theorem take_more {α : Type} {l m : List α} {k : Nat} (h1 : k < l.length) (h2 : k < m.length) (ht : l.take k = m.take k) (h : l[k] = m[k]) : l.take (k + 1) = m.take (k + 1) := by
  rw [List.take_succ_eq_append_getElem h1, List.take_succ_eq_append_getElem h2, ht, h]

/-- A list of numbers in memory. -/
def ints (l : List Int) : List Value := l.map (Value.int .i64)
theorem ints_len (l : List Int) : (ints l).length = l.length := by simp [ints]
theorem ints_at (l : List Int) (k : Nat) (hk : k < l.length) : (ints l)[k]? = some (.int .i64 l[k]) := by simp [ints, hk]
theorem int_at {w : World} {B : Nat} {A : Option Addr} {l : List Int} (h : Rd w B A (ints l)) (k : Nat) (hk : k < l.length) :
    ∃ b off, A = some ⟨b, off, none⟩ ∧ b < B ∧ w.cell? ⟨b, off + k, none⟩ = some (.int .i64 l[k]) := h.at_ k _ (ints_at l k hk)

/-- The reference's own look at a list. -/
def rightR : Option Sp → List Sp → Bool
  | _, [] => true
  | o, p :: r => if p.1 < 0 ∨ p.2 < 1 ∨ 4096 < p.2 ∨ 4096 - p.2 < p.1 ∨ (∃ q, o = some q ∧ p.1 ≤ q.1 + q.2) then false else rightR (some p) r
theorem rightR_eq : ∀ (l : List Sp) (o : Option Sp) (f : Int), (∀ q, o = some q → q.1 + q.2 + 1 = f) → (o = none → f = 0) → 0 ≤ f → rightR o l = rightF f l
  | [], _, _, _, _, _ => rfl
  | (s, n) :: r, o, f, h1, h2, h3 => by
    have hiff : (s < 0 ∨ n < 1 ∨ 4096 < n ∨ 4096 - n < s ∨ (∃ q, o = some q ∧ s ≤ q.1 + q.2)) ↔ (s < f ∨ n < 1 ∨ 4096 - s < n) := by
      rcases o with _ | q
      · have := h2 rfl
        simp; omega
      · have := h1 q rfl
        simp only [Option.some.injEq, exists_eq_left']
        omega
    simp only [rightR, rightF, hiff]
    split
    · rfl
    · exact rightR_eq r _ _ (by rintro q ⟨⟩; rfl) (by simp) (by omega)
end
section
open Go.RowKit

theorem infoSpan : (Try.prog.info? 115).map (fun i => (i.zero, i.size, i.bytes)) = some (some (.agg #[.int .i64 0, .int .i64 0]), 2, 16) := by kernel_rfl
theorem infoInt : (Try.prog.info? 3).map (fun i => (i.zero, i.size, i.bytes)) = some (some (.int .i64 0), 1, 8) := by kernel_rfl

/-- What stands in reverse is owned. -/
def OwnR (w : World) (base : Nat) (v : Value) (R : List Sp) : Prop := w.ownsRow base 115 2 v R.length (spc R.reverse)

theorem spc_last (r : List Sp) (s n : Int) : spc ((s, n) :: r).reverse = spc r.reverse ++ [.int .i64 s, .int .i64 n] := by
  rw [List.reverse_cons, spc_app]; rfl
theorem spc_rev_len (r : List Sp) : (spc r.reverse).length = r.length * 2 := by rw [spc_len, List.length_reverse]
theorem spc_last0 (r : List Sp) (s n : Int) : (spc ((s, n) :: r).reverse)[r.length * 2]? = some (.int .i64 s) := by
  rw [spc_last, List.getElem?_append_right (by rw [spc_rev_len]; omega), spc_rev_len]; simp
theorem spc_last1 (r : List Sp) (s n : Int) : (spc ((s, n) :: r).reverse)[r.length * 2 + 1]? = some (.int .i64 n) := by
  rw [spc_last, List.getElem?_append_right (by rw [spc_rev_len]; omega), spc_rev_len]; simp
theorem spc_set (r : List Sp) (s n n' : Int) : (spc ((s, n) :: r).reverse).set (r.length * 2 + 1) (.int .i64 n') = spc ((s, n') :: r).reverse := by
  rw [spc_last, spc_last, List.set_append_right _ _ (by rw [spc_rev_len]; omega), spc_rev_len]; simp

theorem OwnR.last {w : World} {base g cap : Nat} {s n : Int} {r : List Sp} (h : OwnR w base (.slice (some ⟨g, 0, none⟩) (r.length + 1) cap) ((s, n) :: r)) :
    w.cell? ⟨g, r.length * 2, none⟩ = some (.int .i64 s) ∧ w.cell? ⟨g, r.length * 2 + 1, none⟩ = some (.int .i64 n) := by
  have h' : w.ownsRow base 115 2 (.slice (some ⟨g, 0, none⟩) (r.length + 1) cap) (r.length + 1) (spc ((s, n) :: r).reverse) := h
  exact ⟨(h'.cellAt _ (by omega)).trans (spc_last0 r s n), (h'.cellAt _ (by omega)).trans (spc_last1 r s n)⟩

theorem cells_new (w : World) (cs : Array Value) (t : TypeId) : ∀ j u, cs.toList[j]? = some u → (w.alloc (.cells cs t)).cell? ((⟨w.heap.size, 0, none⟩ : Addr).add j) = some u := by
  intro j u hu
  have e : (⟨w.heap.size, 0, none⟩ : Addr).add j = ⟨w.heap.size, j, none⟩ := by unfold Addr.add; split <;> simp_all
  rw [e, (Blk.new w t cs).cell j]
  simpa using hu

/-- append of one span that lies in the newest block. -/
theorem app_span {ops : Array Oper} {rest : List Oper} {o : Oper} {a : Act} {w : World} {Q : Exit → Act → World → Prop} (hgd : o.guard = none) (s x : Nat)
    (ho : o.op = .call { callee := .builtin .append, args := #[.tmp s, .tmp x], argTypes := #[98, 98] })
    (base : Nat) (v : Value) (R : List Sp) (hs : a.eval (.tmp s) = v) (hown : OwnR w base v R) (f n : Int)
    (hx : a.eval (.tmp x) = .slice (some ⟨w.heap.size, 0, none⟩) 1 1) (hbase : base ≤ w.heap.size) (hR : R.length ≤ 1048576)
    (h : ∀ v' w', OwnR w' base v' ((f, n) :: R) → (w.alloc (.cells #[.int .i64 f, .int .i64 n] 115)).grownBy w' v.ownBlock → wpList Try.prog ops Q rest (a.put o.dst v') w') :
    wpList Try.prog ops Q (o :: rest) a (w.alloc (.cells #[.int .i64 f, .int .i64 n] 115)) := by
  obtain ⟨i0, hi0, hz0, hz1, hz2⟩ := info_parts infoSpan
  refine wpList_append_own _ hgd (.tmp s) (.tmp x) _ ho base 115 i0 _ 2 16 Try.underlying98 hi0 hz0 hz1 hz2 rfl (by omega) v R.length (spc R.reverse) hs (World.ownsRow.alloc hown _)
    ⟨w.heap.size, 0, none⟩ 1 1 [.int .i64 f, .int .i64 n] hx rfl (cells_new w #[.int .i64 f, .int .i64 n] 115) (by simp [Value.oneCell']) (by simp only [maxLen]; omega) (by omega) (by simp; omega) ?_
  intro v' w' h1 h2 _
  refine h v' w' ?_ h2
  show w'.ownsRow base 115 2 v' (R.length + 1) (spc ((f, n) :: R).reverse)
  rw [spc_last]
  exact h1

set_option maxHeartbeats 400000 in
/-- Behind a list that does not end at f: a span more. -/
theorem add_new (base : Nat) (v : Value) (R : List Sp) (f t : Int) (w : World) (hown : OwnR w base v R) (hbase : base ≤ w.heap.size) (hR : R.length ≤ 1048576)
    (hf : 0 ≤ f) (hft : f < t) (ht : t ≤ 4096) (hin : ∀ p ∈ R, 0 ≤ p.1 ∧ 0 ≤ p.2 ∧ p.1 + p.2 ≤ 4096) (hne : ∀ s n r, R = (s, n) :: r → s + n ≠ f) :
    Calls Try.prog 71 #[v, .int .i64 f, .int .i64 t] w fun e w' => ∃ v', e = .returned v' ∧ OwnR w' base v' ((f, t - f) :: R) ∧ Below base w w' := by
  rcases R with _ | ⟨⟨s, n⟩, r⟩
  · have hlen : ∃ A c, v = .slice A 0 c := by
      obtain ⟨A, c, rfl, _⟩ := own_rd hown
      exact ⟨A, c, rfl⟩
    obtain ⟨A, c, rfl⟩ := hlen
    have HO := Lib.hid hown
    clear hin hne hown
    go_enter Try.func71, Try.ntmps71
    go_wp2_with (at_builtin; refine app_span rfl 34 40 rfl base _ [] rfl HO.out f (t - f) rfl hbase (by simp) ?_; intro v' w' hown' hg)
    go_ret
    exact ⟨v', rfl, hown', below_own ((Below.refl _ _).alloc hbase _) (World.ownsRow.alloc HO.out _) (Nat.le_refl _) (by simp; omega) hg⟩
  · obtain ⟨g, cap, rfl, hg1, hg2, hg3⟩ := own_form hown (by simp)
    obtain ⟨hc1, hc2⟩ := OwnR.last hown
    have hn : (s + n == f) = false := by rw [beq_eq_false_iff_ne]; exact hne s n r rfl
    obtain ⟨hs0, hn0, hsn⟩ := hin (s, n) (by simp)
    simp only [List.length_cons] at hR
    have HO := Lib.hid hown
    clear hin hne hown
    simp only at hs0 hn0 hsn
    go_enter Try.func71, Try.ntmps71
    go_wp2_with (first
      | (go_at_call 70; refine (end_in _ _ _ (by omega) (by omega)).mono ?_; rintro e w1 ⟨rfl, hb1⟩; have hsz1 := hb1.size; have HO1 : Hid (OwnR w1 base (.slice (some ⟨g, 0, none⟩) (r.length + 1) cap) ((s, n) :: r)) := Lib.hid (own_far HO.out hb1))
      | (at_builtin; refine app_span rfl 34 40 rfl base (.slice (some ⟨g, 0, none⟩) (r.length + 1) cap) ((s, n) :: r) rfl HO1.out f (t - f) rfl (by omega) hR ?_; intro v' w' hown' hgr))
    go_ret
    exact ⟨v', rfl, hown', below_own ((hb1.mono hbase).alloc (by omega) _) (World.ownsRow.alloc (own_far HO.out hb1) _) (Nat.le_refl _) (by simp; omega) hgr⟩

set_option maxHeartbeats 400000 in
/-- Behind a list that ends at f: its last span is longer. -/
theorem add_old (base : Nat) (v : Value) (r : List Sp) (s n f t : Int) (w : World) (hown : OwnR w base v ((s, n) :: r)) (hbase : base ≤ w.heap.size) (hR : r.length ≤ 1048576)
    (hf : 0 ≤ f) (hft : f < t) (ht : t ≤ 4096) (hs0 : 0 ≤ s) (hn0 : 0 ≤ n) (he : s + n = f) :
    Calls Try.prog 71 #[v, .int .i64 f, .int .i64 t] w fun e w' => ∃ v', e = .returned v' ∧ OwnR w' base v' ((s, n + (t - f)) :: r) ∧ Below base w w' := by
  obtain ⟨g, cap, rfl, hg1, hg2, hg3⟩ := own_form hown (by simp)
  obtain ⟨hc1, hc2⟩ := OwnR.last hown
  have hn : (s + n == f) = true := by rw [beq_iff_eq]; exact he
  have hfz : w.frozen? ⟨g, r.length * 2 + 1, none⟩ = false := World.ownsRow.frozenAt hown _
  have hsn : s + n ≤ 4096 := by omega
  have HO := Lib.hid hown
  clear hown he
  go_enter Try.func71, Try.ntmps71
  go_wp2_with (go_at_call 70; refine (end_in _ _ _ (by omega) (by omega)).mono ?_; rintro e w1 ⟨rfl, hb1⟩; have hsz1 := hb1.size; obtain ⟨hcc, hff⟩ := bcell hb1)
  go_ret
  obtain ⟨h1, h2⟩ := World.ownsRow.stored (own_far HO.out hb1) (r.length * 2 + 1) (.int .i64 (n + (t - f)))
  rw [spc_set] at h1
  exact ⟨_, rfl, h1, (hb1.mono hbase).setCell hg1 _⟩

theorem add_any (base : Nat) (v : Value) (R : List Sp) (f t : Int) (w : World) (hown : OwnR w base v R) (hbase : base ≤ w.heap.size) (hR : R.length ≤ 1048576)
    (hf : 0 ≤ f) (hft : f < t) (ht : t ≤ 4096) (hin : ∀ p ∈ R, 0 ≤ p.1 ∧ 0 ≤ p.2 ∧ p.1 + p.2 ≤ 4096) :
    Calls Try.prog 71 #[v, .int .i64 f, .int .i64 t] w fun e w' => ∃ v', e = .returned v' ∧ OwnR w' base v' (addR R f t) ∧ Below base w w' := by
  rcases R with _ | ⟨⟨s, n⟩, r⟩
  · exact add_new base v [] f t w hown hbase hR hf hft ht hin (by simp)
  · by_cases he : s + n = f
    · rw [addR_hit he]
      obtain ⟨h1, h2, _⟩ := hin (s, n) (by simp)
      exact add_old base v r s n f t w hown hbase (by simp at hR; omega) hf hft ht h1 h2 he
    · rw [addR_miss he]
      exact add_new base v ((s, n) :: r) f t w hown hbase hR hf hft ht hin (by rintro s n r ⟨⟩; exact he)
theorem built_in {S : Int → Bool} {k : Nat} (hk : k ≤ 4096) : (∀ p ∈ buildR S k, 0 ≤ p.1 ∧ 0 ≤ p.2 ∧ p.1 + p.2 ≤ 4096) ∧ (buildR S k).length ≤ 1048576 := by
  have h := (build_built S k hk).right
  refine ⟨fun p hp => ?_, ?_⟩
  · have := right_mem h p (by simpa using hp)
    omega
  · have := right_len (by omega) (by omega) h
    simp at this
    omega

/-- An array of 4096 bools. -/
def barr (S : Int → Bool) : Array Value := (Array.range 4096).map fun n : Nat => .bool (S (n : Int))
theorem barr_size (S : Int → Bool) : (barr S).size = 4096 := by simp [barr]
theorem barr_at (S : Int → Bool) (k : Nat) (hk : k < 4096) : (barr S)[k]? = some (.bool (S k)) := by simp [barr, hk]
theorem barr_congr {S T : Int → Bool} (h : ∀ n : Int, 0 ≤ n → n < 4096 → S n = T n) : barr S = barr T := by
  unfold barr
  refine Array.map_congr_left fun n hn => ?_
  rw [Array.mem_range] at hn
  rw [h n (by omega) (by omega)]
theorem barr_set {S T : Int → Bool} {b : Bool} (k : Nat) (hk : k < 4096) (h1 : T k = b) (h : ∀ n : Int, 0 ≤ n → n < 4096 → n ≠ k → S n = T n) : (barr S).setIfInBounds k (.bool b) = barr T := by
  refine Array.ext_getElem? fun i => ?_
  rw [Array.getElem?_setIfInBounds]
  rcases Nat.lt_or_ge i 4096 with hi | hi
  · rw [barr_at T i hi, barr_at S i hi]
    split
    · rename_i e; subst e; rw [h1]; simp [barr_size, hk]
    · rename_i e; rw [h i (by omega) (by omega) (by omega)]
  · rw [if_neg (by omega)]
    simp [barr, hi]
def falses : Array Value := Array.replicate 4096 (.bool false)
theorem falses_eq : falses = barr fun _ => false := by
  refine Array.ext ?_ fun i h2 h3 => ?_
  · simp [falses, barr]
  · simp [falses, barr]
theorem zeroArr : ∀ w, Sem.run Try.prog (zeroValue 124) w = .ok (.agg falses) w := by
  intro w
  have h : (Try.prog.info? 124).map (fun i => i.zero) = some (some (.agg falses)) := by kernel_rfl
  obtain ⟨i, hi, hz⟩ := Option.map_eq_some_iff.1 h
  simp [zeroValue, typeInfo, hi, hz]
def inI (l : List Int) (n : Int) : Bool := decide (n ∈ l)
theorem inI_snoc (l : List Int) (k : Nat) (hk : k < l.length) (n : Int) : inI (l.take (k + 1)) n = (inI (l.take k) n || decide (n = l[k])) := by
  rw [List.take_succ_eq_append_getElem hk, Bool.eq_iff_iff]
  simp only [inI, decide_eq_true_eq, Bool.or_eq_true, List.mem_append, List.mem_singleton]
end
section
open Go.RowKit

set_option maxHeartbeats 400000 in
theorem of_any (A : Option Addr) (c : Nat) (l : List Int) (w : World) (hs : Rd w w.heap.size A (ints l)) (hl : l.length ≤ 4611686018427387903) :
    Calls Try.prog 65 #[.slice A l.length c] w fun e w' => ∃ v, e = .returned v ∧ OwnR w' w.heap.size v (canon (inI l)).reverse ∧ Below w.heap.size w w' := by
  have hz := zeroArr
  obtain ⟨S, hS⟩ : ∃ S, S = inI l := ⟨_, rfl⟩
  rw [← hS]
  have HSl := Lib.hid hS; clear hS
  go_enter Try.func65, Try.ntmps65
  go_wp2_with fail
  clear hz
  go_loopw [10] (fun i wr => ∃ (k : Nat), k ≤ l.length ∧ i = .int .i64 k ∧ Blk wr w.heap.size 124 (barr (inI (l.take k))) ∧ Below w.heap.size w wr) (fun i _ => l.length - (intOf i).toNat)
  case atStart => exact ⟨0, by omega, rfl, by rw [show (inI (l.take 0)) = (fun _ => false) from rfl, ← falses_eq]; exact Blk.new w _ _, (Below.refl _ _).alloc (by omega) _⟩
  case round =>
    obtain ⟨k, hk, rfl, hbl, hb⟩ := hrel
    by_cases hlt : k < l.length
    · obtain ⟨b, off, rfl, hbB, hc1⟩ := int_at hs k hlt
      obtain ⟨hc, hf⟩ := bcell hb
      have hsz := hbl.lt
      have hin := inI_snoc l k hlt
      have HI := Lib.hid hin; clear hin
      have HL : Hid (∃ x, l[k] = x) := ⟨_, rfl⟩
      generalize l[k] = x at *
      by_cases hx : 0 ≤ x ∧ x < 4096
      · obtain ⟨hx0, hx1⟩ := hx
        obtain ⟨m, rfl⟩ := Int.eq_ofNat_of_zero_le hx0
        have hcell : wr.cell? ⟨w.heap.size, m, none⟩ = some (.bool (inI (l.take k) m)) := (hbl.cell m).trans (barr_at _ m (by omega))
        have hfz := hbl.frozen m
        generalize inI (l.take k) m = bm at hcell
        go_wp2_with fail
        go_roundw
        case rel => exact ⟨k + 1, by omega, by go_num, by rw [← barr_set (S := inI (l.take k)) (T := inI (l.take (k + 1))) (b := true) m (by omega) (by rw [HI.out]; simp) (fun n _ _ hn => by rw [HI.out]; simp [hn])]; exact hbl.set_ m _, hb.setCell (Nat.le_refl _) _⟩
        case measure => simp [intOf]; omega
      · go_wp2_with fail
        all_goals
          go_roundw
          case rel => exact ⟨k + 1, by omega, by go_num, by rw [barr_congr (S := inI (l.take (k + 1))) (T := inI (l.take k)) (fun n h0 h1 => by rw [HI.out, show decide (n = x) = false from decide_eq_false (by omega), Bool.or_false])]; exact hbl, hb⟩
          case measure => simp [intOf]; omega
    · rw [List.take_of_length_le (by omega)] at hbl
      rw [← HSl.out] at hbl
      go_wp2_with fail
      obtain ⟨wo, rfl⟩ : ∃ wo : World, wo = wr := ⟨_, rfl⟩
      have hsz := hbl.lt
      go_loopw [6, 23] (fun v i wr => ∃ (k : Nat), k ≤ 4096 ∧ i = .int .i64 k ∧ OwnR wr (w.heap.size + 1) v (buildR S k) ∧ Blk wr w.heap.size 124 (barr S) ∧ Below w.heap.size w wr) (fun _ i _ => 4096 - (intOf i).toNat)
      case atStart => exact ⟨0, by omega, rfl, World.ownsRow_nil _ _ _ _, hbl, hb⟩
      case round =>
        obtain ⟨k, hk, rfl, hown, hbl, hb⟩ := hrel
        have hsz := hbl.lt
        by_cases hlt : k < 4096
        · have hcell : wr.cell? ⟨w.heap.size, k, none⟩ = some (.bool (S k)) := (hbl.cell k).trans (barr_at S k hlt)
          obtain ⟨hin, hlen⟩ := built_in (S := S) hk
          have HL := Lib.hid hlen; clear hlen
          have hst : buildR S (k + 1) = if S k then addR (buildR S k) k (k + 1) else buildR S k := rfl
          have hlt' : (k : Int) < 4096 := by omega
          have HK := Lib.hid (And.intro hk hlt); clear hk hlt
          by_cases hS : S k = true
          · rw [if_pos hS] at hst
            rw [hS] at hcell
            have HS := Lib.hid hst; clear hst hS
            have HO := Lib.hid hown
            have HI := Lib.hid hin
            clear hown hin
            go_wp2_with (go_at_call 71; refine (add_any (w.heap.size + 1) _ (buildR S k) k (k + 1) _ HO.out (by omega) HL.out (by omega) (by omega) (by omega) HI.out).mono ?_; rintro e w1 ⟨v1, rfl, ho1, hb1⟩)
            go_roundw
            case rel => exact ⟨k + 1, HK.out.2, by go_num, by rw [HS.out]; exact ho1, hbl.below hb1 (by omega), hb.trans (hb1.mono (by omega))⟩
            case measure => simp [intOf]; omega
          · rw [if_neg hS] at hst
            rw [Bool.eq_false_iff.2 hS] at hcell
            have HS := Lib.hid hst; clear hst hS hin
            go_wp2_with fail
            go_roundw
            case rel => exact ⟨k + 1, HK.out.2, by go_num, by rw [HS.out]; exact hown, hbl, hb⟩
            case measure => simp [intOf]; omega
        · obtain rfl : k = 4096 := by omega
          have HO := Lib.hid hown; clear hown
          go_wp2_with fail
          go_ret
          exact ⟨_, rfl, own_base (base := w.heap.size + 1) (by unfold canon; rw [List.reverse_reverse]; exact HO.out) (by omega), hb⟩
end
section
open Go.RowKit
theorem buildArr : ∀ w, (Instr.build 124 #[]).run Try.prog w = .ok (.agg falses) w := by
  intro w
  exact run_build w _ _ _ (by kernel_rfl)
theorem sizeArr : (Try.prog.info? 124).map (·.size) = some 4096 := by kernel_rfl
theorem sizeArr' (S : Int → Bool) : (Try.prog.info? 124).map (·.size) = some (barr S).size := by rw [barr_size]; exact sizeArr
theorem barr_one (S : Int → Bool) : (barr S).all (·.oneCell') = true := by
  rw [Array.all_eq_true_iff_forall_mem]
  intro v hv
  simp only [barr, Array.mem_map] at hv
  obtain ⟨n, _, rfl⟩ := hv
  rfl
/-- A whole array of bools is stored over another. -/
theorem st_arr {ops : Array Oper} {rest : List Oper} {o : Oper} {a : Act} {w : World} {Q : Exit → Act → World → Prop} (hgd : o.guard = none) (x y : Operand) (ho : o.op = .store 124 x y)
    (g : Nat) (S T : Int → Bool) (hx : a.eval x = .pointer (some ⟨g, 0, none⟩)) (hy : a.eval y = .agg (barr T)) (hg : Blk w g 124 (barr S))
    (h : ∀ w', Blk w' g 124 (barr T) → w'.heap.size = w.heap.size → (∀ B, B ≤ g → Below B w w') → wpList Try.prog ops Q rest (a.put o.dst undef) w') : wpList Try.prog ops Q (o :: rest) a w :=
  wpList_store_row hgd _ x y ho g (barr T) hx hy 124 (barr S) hg (sizeArr' T) (by rw [barr_size, barr_size]) (barr_one T)
    (h _ (by unfold Blk at hg ⊢; simp [World.setRow, Array.getElem?_modify, hg]) (by simp) fun B hB => ⟨rfl, rfl, rfl, by simp, fun k hk => by
      simp only [World.setRow, Array.getElem?_modify]
      rw [if_neg (by omega)]⟩)
/-- A whole array of bools is loaded. -/
theorem ld_arr {ops : Array Oper} {rest : List Oper} {o : Oper} {a : Act} {w : World} {Q : Exit → Act → World → Prop} (hgd : o.guard = none) (x : Operand) (ho : o.op = .load 124 x)
    (g : Nat) (S : Int → Bool) (hx : a.eval x = .pointer (some ⟨g, 0, none⟩)) (hg : Blk w g 124 (barr S))
    (h : wpList Try.prog ops Q rest (a.put o.dst (.agg (barr S))) w) : wpList Try.prog ops Q (o :: rest) a w :=
  wpList_load_row hgd _ x ho g hx 124 (barr S) (0, 0) _ hg Try.underlying124 rfl (sizeArr' S) h
def noB : Int → Bool := fun _ => false

theorem noB_eq : (fun _ => false) = noB := rfl
theorem built_end {S : Int → Bool} {k : Nat} (hk : k ≤ 4096) {s n : Int} {r : List Sp} (h : buildR S k = (s, n) :: r) : 0 < k ∧ 0 ≤ s ∧ 0 ≤ n ∧ s + n ≤ k ∧ (s + n = k ↔ S ((k - 1 : Nat) : Int) = true) := by
  rcases k with _ | k
  · simp [buildR] at h
  · have hb := build_built S k (by omega)
    have hb' := build_built S (k + 1) hk
    have hin := (built_in (S := S) hk).1 (s, n) (by rw [h]; simp)
    have he := hb'.ends
    rw [h, List.reverse_cons, end_app] at he
    simp only [endF] at he
    refine ⟨by omega, hin.1, hin.2.1, by omega, ?_⟩
    simp only [Nat.add_sub_cancel]
    simp only [buildR] at h
    by_cases hS : S k = true
    · rw [if_pos hS] at h
      refine ⟨fun _ => hS, fun _ => ?_⟩
      rcases hR : buildR S k with _ | ⟨⟨s', n'⟩, r'⟩
      · rw [hR] at h
        simp only [addR, List.cons.injEq, Prod.mk.injEq] at h
        omega
      · rw [hR] at h
        by_cases e : s' + n' = k
        · rw [addR_hit e] at h
          simp only [List.cons.injEq, Prod.mk.injEq] at h
          omega
        · rw [addR_miss e] at h
          simp only [List.cons.injEq, Prod.mk.injEq] at h
          omega
    · rw [if_neg hS] at h
      have he := hb.ends
      rw [h, List.reverse_cons, end_app] at he
      simp only [endF] at he
      exact ⟨fun h => by omega, fun h => absurd h hS⟩

/-- What is in the first spans, and in the first m numbers of one more. -/
def memK (l : List Sp) (k : Nat) (s m n : Int) : Bool := memF (l.take k) n || inSp (s, m) n
end
section
open Go.RowKit

def mixF (how : Int) (S T : Int → Bool) (n : Int) : Bool := if how = 0 then S n || T n else if how = 1 then S n && !T n else S n && T n
def mixK (how : Int) (S T : Int → Bool) (k n : Int) : Bool := if n < k then mixF how S T n else S n

/-- The numbers below k, rising. -/
def numsTo (S : Int → Bool) : Nat → List Int
  | 0 => []
  | k + 1 => if S k then numsTo S k ++ [(k : Int)] else numsTo S k
theorem numsTo_len (S : Int → Bool) : ∀ k, (numsTo S k).length ≤ k
  | 0 => by simp [numsTo]
  | k + 1 => by
    have := numsTo_len S k
    simp only [numsTo]
    split
    · simp; omega
    · omega
def OwnI (w : World) (base : Nat) (v : Value) (l : List Int) : Prop := w.ownsRow base 3 1 v l.length (ints l)
theorem ints_app (a b : List Int) : ints (a ++ b) = ints a ++ ints b := by simp [ints]
theorem ints_one {l : List Int} : ∀ u ∈ ints l, u.oneCell' = true := by
  intro u hu
  simp only [ints, List.mem_map] at hu
  obtain ⟨n, _, rfl⟩ := hu
  rfl
/-- append of one number that lies in the newest block. -/
theorem app_int {ops : Array Oper} {rest : List Oper} {o : Oper} {a : Act} {w : World} {Q : Exit → Act → World → Prop} (hgd : o.guard = none) (s x : Nat)
    (ho : o.op = .call { callee := .builtin .append, args := #[.tmp s, .tmp x], argTypes := #[35, 35] })
    (base : Nat) (v : Value) (l : List Int) (hs : a.eval (.tmp s) = v) (hown : OwnI w base v l) (n : Int)
    (hx : a.eval (.tmp x) = .slice (some ⟨w.heap.size, 0, none⟩) 1 1) (hbase : base ≤ w.heap.size) (hR : l.length ≤ 1048576)
    (h : ∀ v' w', OwnI w' base v' (l ++ [n]) → (w.alloc (.cells #[.int .i64 n] 3)).grownBy w' v.ownBlock → wpList Try.prog ops Q rest (a.put o.dst v') w') :
    wpList Try.prog ops Q (o :: rest) a (w.alloc (.cells #[.int .i64 n] 3)) := by
  obtain ⟨i0, hi0, hz0, hz1, hz2⟩ := info_parts infoInt
  refine wpList_append_own _ hgd (.tmp s) (.tmp x) _ ho base 3 i0 _ 1 8 Try.underlying35 hi0 hz0 hz1 hz2 rfl (by omega) v l.length (ints l) hs (World.ownsRow.alloc hown _)
    ⟨w.heap.size, 0, none⟩ 1 1 [.int .i64 n] hx rfl (cells_new w #[.int .i64 n] 3) (by simp [Value.oneCell']) (by simp only [maxLen]; omega) (by omega) (by simp; omega) ?_
  intro v' w' h1 h2 _
  refine h v' w' ?_ h2
  show w'.ownsRow base 3 1 v' (l ++ [n]).length (ints (l ++ [n]))
  rw [ints_app, List.length_append]
  exact h1

/-- The first span of at least so many. -/
def firstF (l : List Sp) (many : Int) : Option Sp := if many < 1 then none else l.find? fun p => decide (many ≤ p.2)
def firstV (l : List Sp) (many : Int) : Value := match firstF l many with
  | none => .tuple #[.agg #[.int .i64 0, .int .i64 0], .bool false]
  | some p => .tuple #[.agg #[.int .i64 p.1, .int .i64 many], .bool true]
theorem first_low {l : List Sp} {many : Int} (h : many < 1) : firstV l many = .tuple #[.agg #[.int .i64 0, .int .i64 0], .bool false] := by
  simp [firstV, firstF, h]
theorem first_miss {l : List Sp} {many : Int} (h : ∀ p ∈ l, p.2 < many) : firstV l many = .tuple #[.agg #[.int .i64 0, .int .i64 0], .bool false] := by
  by_cases hm : many < 1
  · exact first_low hm
  · have : l.find? (fun p => decide (many ≤ p.2)) = none := by
      rw [List.find?_eq_none]
      intro p hp
      have := h p hp
      simp; omega
    simp [firstV, firstF, hm, this]
theorem first_hit {l : List Sp} {many : Int} (hm : 1 ≤ many) {k : Nat} (hk : k < l.length) (h : ∀ p ∈ l.take k, p.2 < many) (hh : many ≤ l[k].2) : firstV l many = .tuple #[.agg #[.int .i64 l[k].1, .int .i64 many], .bool true] := by
  have : l.find? (fun p => decide (many ≤ p.2)) = some l[k] := by
    rw [List.find?_eq_some_iff_getElem]
    refine ⟨by simpa using hh, k, hk, rfl, fun j hj => ?_⟩
    have := h l[j] (by rw [List.mem_take_iff_getElem]; exact ⟨j, by omega, rfl⟩)
    simp; omega
  simp [firstV, firstF, show ¬ many < 1 by omega, this]
theorem take_lt {l : List Sp} {many : Int} {k : Nat} (hk : k < l.length) (h : ∀ p ∈ l.take k, p.2 < many) (hh : l[k].2 < many) : ∀ p ∈ l.take (k + 1), p.2 < many := by
  rw [List.take_succ_eq_append_getElem hk]
  intro p hp
  rcases List.mem_append.1 hp with hp | hp
  · exact h p hp
  · rw [List.mem_singleton] at hp; rw [hp]; exact hh
end
section
open Go.RowKit
end
section
open Go.RowKit

def behF : List Sp → Int → List Sp
  | [], _ => []
  | p :: r, f => if p.1 + p.2 ≤ f then r else p :: r
theorem behF_yes {s n f : Int} {r : List Sp} (h : s + n ≤ f) : behF ((s, n) :: r) f = r := if_pos h
theorem behF_no {s n f : Int} {r : List Sp} (h : ¬ s + n ≤ f) : behF ((s, n) :: r) f = (s, n) :: r := if_neg h
def strF : List Sp → Int → Bool × Int
  | [], _ => (false, 4096)
  | p :: _, f => if f < p.1 then (false, p.1) else (true, p.1 + p.2)

theorem rd_tail {w : World} {B : Nat} {b off : Nat} {s n : Int} {r : List Sp} (h : Rd w B (some ⟨b, off, none⟩) (spc ((s, n) :: r))) : Rd w B (some ⟨b, off + 2, none⟩) (spc r) :=
  h.drop (k := 2)

/-- What is left of a set behind f: its later spans end behind f. -/
structure Left (S : Int → Bool) (f : Int) (l : List Sp) : Prop where
  right : rightF 0 l = true
  same : ∀ x, f ≤ x → memF l x = S x
  tail : ∀ p ∈ l.tail, f < p.1 + p.2
theorem left_in {S : Int → Bool} {f : Int} {l : List Sp} (h : Left S f l) : (∀ p ∈ l, 0 ≤ p.1 ∧ 0 ≤ p.2 ∧ p.1 + p.2 ≤ 4096) ∧ (l.length : Int) ≤ 4097 :=
  ⟨fun p hp => by have := right_mem h.right p hp; omega, by have := right_len (by omega) (by omega) h.right; omega⟩
theorem left_beh {S : Int → Bool} {f : Int} {l : List Sp} (h : Left S f l) : Left S f (behF l f) ∧ ∀ p ∈ behF l f, f < p.1 + p.2 := by
  obtain ⟨h1, h2, h3⟩ := h
  rcases l with _ | ⟨⟨s, n⟩, r⟩
  · exact ⟨⟨h1, h2, h3⟩, by simp [behF]⟩
  · obtain ⟨g1, g2, g3, g4⟩ := right_cons h1
    simp only [List.tail_cons] at h3
    by_cases he : s + n ≤ f
    · rw [behF_yes he]
      refine ⟨⟨right_mono (by omega) g4, fun x hx => ?_, fun p hp => h3 p (List.mem_of_mem_tail hp)⟩, h3⟩
      rw [← h2 x hx]
      have : inSp (s, n) x = false := by simp [inSp]; omega
      simp [memF, this]
    · rw [behF_no he]
      exact ⟨⟨h1, h2, h3⟩, fun p hp => by
        rcases List.mem_cons.1 hp with rfl | hp
        · simp only; omega
        · exact h3 p hp⟩
theorem left_str {S : Int → Bool} {f : Int} {l : List Sp} (hf : f < 4096) (h : Left S f l) (hl : ∀ p ∈ l, f < p.1 + p.2) :
    f < (strF l f).2 ∧ (strF l f).2 ≤ 4096 ∧ (∀ x, f ≤ x → x < (strF l f).2 → S x = (strF l f).1) ∧ ∀ t, f < t → t ≤ (strF l f).2 → Left S t l := by
  obtain ⟨h1, h2, h3⟩ := h
  rcases l with _ | ⟨⟨s, n⟩, r⟩
  · exact ⟨hf, Int.le_refl _, fun x hx _ => by rw [← h2 x hx]; rfl, fun t ht _ => ⟨h1, fun x hx => h2 x (by omega), by simp⟩⟩
  · obtain ⟨g1, g2, g3, g4⟩ := right_cons h1
    have g5 := right_mem g4
    have g6 := hl (s, n) (by simp)
    simp only at g6
    simp only [List.tail_cons] at h3
    by_cases hs : f < s
    · rw [show strF ((s, n) :: r) f = (false, s) from if_pos hs]
      refine ⟨hs, by simp only; omega, fun x hx hx2 => ?_, fun t ht ht2 => ⟨h1, fun x hx => h2 x (by omega), fun p hp => ?_⟩⟩
      · rw [← h2 x hx]
        cases hm : memF ((s, n) :: r) x
        · rfl
        · have := mem_lo (right_mk (Int.le_refl s) g2 g3 g4) hm
          simp only at hx2
          omega
      · have := g5 p hp
        simp only at ht2
        omega
    · rw [show strF ((s, n) :: r) f = (true, s + n) from if_neg hs]
      refine ⟨g6, by simp only; omega, fun x hx hx2 => ?_, fun t ht ht2 => ⟨h1, fun x hx => h2 x (by omega), fun p hp => ?_⟩⟩
      · rw [← h2 x hx]
        exact mem_head (by omega) hx2
      · have := g5 p hp
        simp only at ht2
        omega
end
section
open Go.RowKit Go.Shelf
attribute [local go_sem] Oper.semAt_some

/-- The numbers of a list of spans, in its order. -/
def runF (s : Int) (k : Nat) : List Int := (List.range k).map fun (j : Nat) => s + j
def spF (l : List Sp) : List Int := l.flatMap fun p => runF p.1 p.2.toNat
theorem spF_app (a b : List Sp) : spF (a ++ b) = spF a ++ spF b := by simp [spF]
theorem runF_succ (s : Int) (k : Nat) : runF s (k + 1) = runF s k ++ [s + k] := by simp [runF, List.range_succ]
theorem spF_take {l : List Sp} {k : Nat} (h : k < l.length) : spF (l.take (k + 1)) = spF (l.take k) ++ runF l[k].1 l[k].2.toNat := by
  rw [List.take_succ_eq_append_getElem h, spF_app]; simp [spF]
theorem spF_pre {l : List Sp} {k : Nat} (h : k < l.length) {j : Nat} (hj : j ≤ l[k].2.toNat) : spF (l.take k) ++ runF l[k].1 j <+: spF l := by
  have h1 : spF l = spF (l.take (k + 1)) ++ spF (l.drop (k + 1)) := by rw [← spF_app, List.take_append_drop]
  rw [h1, spF_take h]
  have h2 : runF l[k].1 l[k].2.toNat = runF l[k].1 j ++ (runF l[k].1 l[k].2.toNat).drop j := by
    conv => lhs; rw [← List.take_append_drop j (runF l[k].1 l[k].2.toNat)]
    congr 1
    simp only [runF, ← List.map_take, List.take_range]
    rw [Nat.min_eq_left hj]
  rw [h2]
  exact ⟨_, by simp only [List.append_assoc]; rfl⟩

/-- Blocks of spans stay, and what lies below n0. -/
def KeepSp (n0 : Nat) (W W' : World) : Prop := Below n0 W W' ∧ ∀ g cs, Blk W g 115 cs → Blk W' g 115 cs
theorem grown_of_below {W W' : World} (hb : Below W.heap.size W W') : W.grownBy W' none := ⟨hb.os, hb.tape, hb.output, hb.size, fun i hi _ => hb.block i hi⟩

set_option maxRecDepth 100000 in
set_option maxHeartbeats 1000000 in
theorem nums1_in (n : Nat) (hn : 1 ≤ n) (l Bn n0 c : Nat) (A : Option Addr) (L : List Sp) (hr : rightF 0 L = true) (J Jx : List Int → World → Prop) (W : World)
    (hJ : AbidesFrom W.heap.size J)
    (hY : ∀ pre x W1, J pre W1 → pre.length < (spF L).length → YieldAt Fence.wide (n - 1) Try.prog l #[.int .i64 x] W1 fun e W' =>
      (e = .returned (.bool true) ∧ J (pre ++ [x]) W' ∧ KeepSp n0 W1 W') ∨ (e = .returned (.bool false) ∧ Jx (pre ++ [x]) W'))
    (hn0 : n0 ≤ W.heap.size) (hBn : W.cell? ⟨Bn, 0, none⟩ = some (.slice A L.length c)) (hBl : Bn < W.heap.size) (hs : Rd W n0 A (spc L)) (h0 : J [] W) :
    CallsIn Fence.wide n Try.prog 63 #[.func (.yield l) #[] #[], .pointer (some ⟨Bn, 0, none⟩)] W fun e W' => (∃ v, e = .returned v) ∧
      ((∃ ys, ys = spF L ∧ J ys W') ∨ (∃ pre, pre <+: spF L ∧ Jx pre W')) := by
  have hl : (L.length : Int) ≤ 4097 := by have := right_len (by omega) (by omega) hr; omega
  have hR : Calls Try.prog 64 #[.slice A L.length c] W fun e w' => e = .returned (.bool true) ∧ Below W.heap.size W w' := by
    have h := right_any A c L W (hs.mono hn0) (right_ok (by omega) hr) (by omega)
    rw [hr] at h; exact h
  have hmem := right_mem hr
  have HM := Lib.hid hmem
  have HR := Lib.hid hR
  have HJ := Lib.hid hJ
  have HY := Lib.hid hY
  clear hR hmem hJ hY hr
  refine callsIn_of_wp Try.func63 rfl trivial ?_ rfl
  simp only [Try.ntmps63, List.size_toArray, List.length_cons, List.length_nil, Nat.reduceAdd, Nat.reduceSub, Array.replicate_succ, Array.replicate_zero, List.push_toArray, List.append_toArray, List.nil_append, List.cons_append]
  gi_wp2_with fail
  refine ⟨trivial, (callsIn_wide.2 HR.out).mono ?_⟩
  rintro e w1 ⟨rfl, hb1⟩
  have hB1 : w1.cell? ⟨Bn, 0, none⟩ = some (.slice A L.length c) := (hb1.cell (p := ⟨Bn, 0, none⟩) hBl).trans hBn
  have hj1 : J [] w1 := HJ.out [] W w1 none h0 (grown_of_below hb1) (by simp)
  have hs1 : Rd w1 n0 A (spc L) := hs.below (hb1.mono hn0)
  have hsz1 := hb1.size
  clear h0 hs hb1 hBn
  gi_wp2_with fail
  gi_loopw [11] (fun i wr => ∃ (k : Nat), k ≤ L.length ∧ i = .int .i64 k ∧ J (spF (L.take k)) wr ∧ Below n0 w1 wr) (fun i _ => L.length - (intOf i).toNat)
  case atStart => exact ⟨0, by omega, rfl, hj1, Below.refl _ _⟩
  case round =>
    obtain ⟨k, hk, rfl, hj, hb⟩ := hrel
    have hsz := hb.size
    by_cases hlt : k < L.length
    · obtain ⟨b, off, rfl, hbB, hc1, hc2⟩ := sp_at hs1 k hlt
      obtain ⟨hc, hf⟩ := bcell hb
      obtain ⟨g0, g1, g2⟩ := HM.out _ (List.getElem_mem hlt)
      have hpre := fun j => spF_pre (l := L) hlt (j := j)
      have hnext := spF_take (l := L) hlt
      have HP := Lib.hid hpre
      have HN := Lib.hid hnext
      clear hpre hnext
      generalize L[k] = p at *
      obtain ⟨s, m⟩ := p
      simp only at hc1 hc2 g0 g1 g2
      have hb' : b < wr.heap.size := by omega
      gi_wp2_with fail
      have hj2 : J (spF (L.take k)) (wr.alloc (.cells #[.int .i64 s, .int .i64 m] 115)) := HJ.out _ wr _ none hj (World.grownBy_alloc wr _ none) (by simp)
      have hb2 : Below n0 w1 (wr.alloc (.cells #[.int .i64 s, .int .i64 m] 115)) := hb.alloc (by omega) _
      have hbl2 : Blk (wr.alloc (.cells #[.int .i64 s, .int .i64 m] 115)) wr.heap.size 115 #[.int .i64 s, .int .i64 m] := Blk.new _ _ _
      have hgs : w1.heap.size ≤ wr.heap.size := by omega
      generalize wr.heap.size = gs at *
      generalize wr.alloc (.cells #[.int .i64 s, .int .i64 m] 115) = wi at hj2 hb2 hbl2 ⊢
      clear hj hb hc hf
      gi_loopw [17] (fun i wr => ∃ (j : Nat), (j : Int) ≤ m ∧ i = .int .i64 j ∧ J (spF (L.take k) ++ runF s j) wr ∧ Blk wr gs 115 #[.int .i64 s, .int .i64 m] ∧ Below n0 w1 wr) (fun i _ => m.toNat - (intOf i).toNat)
      case atStart => exact ⟨0, by omega, rfl, by simpa [runF] using hj2, hbl2, hb2⟩
      case round =>
        clear hj2 hb2 hbl2
        obtain ⟨j, hjm, rfl, hj, hbl, hb⟩ := hrel
        have q0 := hbl.cell 0
        have q1 := hbl.cell 1
        simp only [List.getElem?_toArray, List.getElem?_cons_zero, List.getElem?_cons_succ] at q0 q1
        by_cases hjl : (j : Int) < m
        · have hlen : (spF (L.take k) ++ runF s j).length < (spF L).length := by
            have h := (HP.out (j + 1) (by omega)).length_le
            rw [runF_succ, ← List.append_assoc, List.length_append] at h
            simp only [List.length_singleton] at h
            omega
          obtain ⟨fn, tmps, assign, body, hy, hR⟩ := HY.out _ (s + j) wr hj hlen
          clear hlen
          gi_wp2_with fail
          refine hR.mono ?_
          rintro e W3 (⟨rfl, hJ3, hk3⟩ | ⟨rfl, hJx3⟩)
          · clear hy hR
            gi_wp2_with fail
            go_roundw
            case rel => exact ⟨j + 1, by omega, by go_num, by rw [runF_succ, ← List.append_assoc]; exact hJ3, hk3.2 _ _ hbl, hb.trans hk3.1⟩
            case measure => simp [intOf]; omega
          · clear hy hR
            gi_wp2_with fail
            refine bodyPost_ret (results_none rfl _ _ _) rfl ?_
            exact ⟨⟨_, rfl⟩, .inr ⟨_, by have h := HP.out (j + 1) (by omega); rw [runF_succ, ← List.append_assoc] at h; exact h, hJx3⟩⟩
        · have hjm' : j = m.toNat := by omega
          rw [hjm', ← HN.out] at hj
          clear hjm'
          gi_wp2_with fail
          go_roundw
          case rel => exact ⟨k + 1, by omega, by go_num, hj, hb⟩
          case measure => simp [intOf]; omega
    · rw [List.take_of_length_le (by omega)] at hj
      gi_wp2_with fail
      refine bodyPost_end (results_none rfl _ _ _) rfl ?_
      exact ⟨⟨_, rfl⟩, .inl ⟨_, rfl, hj⟩⟩

theorem numbers_any (A : Option Addr) (n c : Nat) (w : World) :
    Calls Try.prog 56 #[.slice A n c] w fun e w' => e = .returned (.func (.func 63) #[] #[.pointer (some ⟨w.heap.size, 0, none⟩)]) ∧ w' = w.alloc (.cells #[.slice A n c] 98) := by
  go_enter Try.func56, Try.ntmps56
  go_wp2_with fail
  go_ret
  exact ⟨rfl, rfl⟩

theorem nums_stops (n : Nat) (hn : 1 ≤ n) (Bn n0 c : Nat) (A : Option Addr) (L : List Sp) (hr : rightF 0 L = true) (w : World) (hBn : Bn < w.heap.size) (hn0 : n0 ≤ w.heap.size)
    (hc : w.cell? ⟨Bn, 0, none⟩ = some (.slice A L.length c)) (hs : Rd w n0 A (spc L)) :
    SeqStopsK Fence.wide n Try.prog 63 #[.pointer (some ⟨Bn, 0, none⟩)] (fun x : Int => #[Value.int .i64 x]) (KeepSp n0) (fun ys => ys = spF L) (fun pre => pre <+: spF L) (spF L).length w := fun l J Jx W hW hJ _ hY h0 =>
  nums1_in n hn l Bn n0 c A L hr J Jx W hJ hY (Nat.le_trans hn0 hW.size) ((hW.cell (p := ⟨Bn, 0, none⟩) hBn).trans hc) (Nat.lt_of_lt_of_le hBn hW.size) (hs.below (hW.mono hn0)) h0

theorem keepSp_t {n0 : Nat} {X Y Z : World} (h : KeepSp n0 X Y) (k : KeepSp n0 Y Z) : KeepSp n0 X Z := ⟨h.1.trans k.1, fun g cs hg => k.2 g cs (h.2 g cs hg)⟩
theorem keepSp_b {n0 : Nat} {w : World} (hn0 : n0 ≤ w.heap.size) : ∀ (W : World) (l : Nat) (o o' : Obj), w.heap.size ≤ l → W.heap[l]? = some o → o.isCells = false → o.isWalk = false → KeepSp n0 W (W.putObj l o') := by
  intro W l o o' hl ho hcells hwalk
  refine ⟨belowK_b (w := w) hn0 W l o o' hl ho hcells hwalk, fun g cs hg => ?_⟩
  have hne : g ≠ l := by
    rintro rfl
    unfold Blk at hg
    rw [hg] at ho
    injection ho with ho
    subst ho
    simp [Obj.isCells] at hcells
  exact (World.putObj_heap_other hne).trans hg
theorem keepSp_refl (n0 : Nat) (W : World) : KeepSp n0 W W := ⟨Below.refl _ _, fun _ _ h => h⟩
theorem keepSp_of {n0 : Nat} {W W' : World} (hb : Below n0 W W') (h : ∀ g, g < W.heap.size → (∃ cs, Blk W g 115 cs) → W'.heap[g]? = W.heap[g]?) : KeepSp n0 W W' :=
  ⟨hb, fun g cs hg => (h g hg.lt ⟨cs, hg⟩).trans hg⟩

theorem own_blk_ne {w : World} {g base e t size n : Nat} {v : Value} {xs : List Value} {cs : Array Value} (h : w.ownsRow base e size v n xs) (hg : Blk w g t cs) (hne : e ≠ t) : some g ≠ v.ownBlock := by
  rcases h.2 with ⟨rfl, _⟩ | ⟨g', cap, cur, rfl, _, hh, _⟩
  · simp [Value.ownBlock]
  · intro he
    have : g = g' := by simpa [Value.ownBlock] using he
    subst this
    unfold Blk at hg
    rw [hh] at hg
    injection hg with hg
    injection hg with _ ht
    exact hne ht
theorem blk_grown {w w' : World} {g t : Nat} {cs : Array Value} {row : Option Nat} (h : Blk w g t cs) (hb : w.grownBy w' row) (hg : some g ≠ row) : Blk w' g t cs := (hb.block g h.lt hg).trans h
theorem blk_alloc {w : World} {g t : Nat} {cs : Array Value} (h : Blk w g t cs) (o : Obj) : Blk (w.alloc o) g t cs := (Below.heap_alloc w o g h.lt).trans h

theorem boxed_kept_own {W W' : World} {row : Option Nat} {B : Nat} {t : TypeId} {v : Value} (h : Boxed W B t v) (hg : W.grownBy W' row) (hr : ∀ r, row = some r → ∃ o : Obj, W.heap[r]? = some o ∧ o.isCells = false) : Boxed W' B t v :=
  h.kept hg fun e => by
    obtain ⟨o, ho, hc⟩ := hr B e.symm
    unfold Boxed at h
    rw [h] at ho
    cases ho
    simp [Obj.isCells] at hc
def HasAt (n0 : Nat) (W : World) (x : Int) (b : Bool) : Prop := Boxed W n0 3 (.int .i64 x) ∧ Boxed W (n0 + 1) 4 (.bool b)
theorem HasAt.own {n0 : Nat} {W W' : World} {x : Int} {b : Bool} {row : Option Nat} (h : HasAt n0 W x b) (hg : W.grownBy W' row) (hr : ∀ r, row = some r → ∃ o : Obj, W.heap[r]? = some o ∧ o.isCells = false) : HasAt n0 W' x b :=
  ⟨boxed_kept_own h.1 hg hr, boxed_kept_own h.2 hg hr⟩

set_option maxRecDepth 100000 in
set_option maxHeartbeats 2000000 in
theorem has_run (A : Option Addr) (c : Nat) (l : List Sp) (y : Int) (w : World) (hs : Rd w w.heap.size A (spc l)) (hr : rightF 0 l = true) :
    Calls Try.prog 48 #[.slice A l.length c, .int .i64 y] w fun e w' => ∃ r : Bool, e = .returned (.bool r) ∧ ((r = false ∧ ∀ x ∈ spF l, x < y) ∨ ∃ p x, p ++ [x] <+: spF l ∧ (∀ z ∈ p, z < y) ∧ y ≤ x ∧ r = decide (x = y)) ∧ Below w.heap.size w w' := by
  refine (callsIn_wide (n := 4)).1 ?_
  refine callsIn_of_wp_marks Try.func48 rfl trivial ?_ rfl
  simp only [Try.ntmps48, List.size_toArray, List.length_cons, List.length_nil, Nat.reduceAdd, Nat.reduceSub, Array.replicate_succ, Array.replicate_zero, List.push_toArray, List.append_toArray, List.nil_append, List.cons_append]
  gi_wp2_with fail
  refine ⟨trivial, (callsIn_wide.2 (numbers_any A l.length c _)).mono ?_⟩
  rintro e w' ⟨rfl, rfl⟩
  gi_wp2_with fail
  have b0 := Boxed.new w 3 (.int .i64 y)
  have b1 := Boxed.new (w.alloc (.cells #[.int .i64 y] 3)) 4 (.bool false)
  have bN := Boxed.new ((w.alloc (.cells #[.int .i64 y] 3)).alloc (.cells #[.bool false] 4)) 98 (.slice A l.length c)
  simp only [World.size_alloc] at b1 bN
  have hB0 : Below w.heap.size w (((w.alloc (.cells #[.int .i64 y] 3)).alloc (.cells #[.bool false] 4)).alloc (.cells #[.slice A l.length c] 98)) := (((Below.refl _ w).alloc (Nat.le_refl _) _).alloc (by simp) _).alloc (by simp; omega) _
  refine wpIn_rangeFunc_ownG rfl (by omega) (gf := 63) (lb := #[.pointer (some ⟨w.heap.size + 1 + 1, 0, none⟩)]) rfl trivial (enters_of Try.func63 (by kernel_rfl) rfl)
    (nums_stops 3 (by omega) (w.heap.size + 1 + 1) w.heap.size c A l hr _ (by simp) (by simp; omega) bN.cell (hs.below hB0)) keepSp_t (keepSp_b (by simp; omega)) (Below.refl _ _) (fun _ => rfl)
    (fun pre W => ((∀ z ∈ pre, z < y) ∧ HasAt w.heap.size W y false) ∧ Below w.heap.size w W)
    (fun c pre W => (c = .ret ∧ ∃ p x, pre = p ++ [x] ∧ (∀ z ∈ p, z < y) ∧ y ≤ x ∧ HasAt w.heap.size W y (decide (x = y))) ∧ Below w.heap.size w W)
    (OwnFrom.and (Own.from (fun s A B row hs hg hr => ⟨hs.1, hs.2.own hg hr⟩) _) (ownFrom_below (Nat.le_refl _) (by simp; omega)))
    (fun c => OwnFrom.and (Own.from (fun s A B row hs hg hr => by obtain ⟨h1, p, x, h2, h3, h4, h5⟩ := hs; exact ⟨h1, p, x, h2, h3, h4, h5.own hg hr⟩) _) (ownFrom_below (Nat.le_refl _) (by simp; omega)))
    ⟨⟨by simp, (b0.alloc _).alloc _, b1.alloc _⟩, hB0⟩
    (fun x => { tmps := #[.slice A l.length c, .int .i64 y, undef, .pointer (some ⟨w.heap.size, 0, none⟩), .pointer (some ⟨w.heap.size + 1, 0, none⟩), .int .i64 x, .slice A l.length c, .func (.func 63) #[] #[.pointer (some ⟨w.heap.size + 1 + 1, 0, none⟩)], .int .i64 x, undef, undef, undef, undef, undef, undef], defers := [] }) ?assign ?body ?done ?stop
  case assign =>
    intro l x W K hK
    gi_wp2
    exact hK
  case body =>
    rintro l pre x W ⟨⟨hp, h0, h1⟩, hB⟩ hlt
    have q0 := h0.cell
    have q1 := h1.cell
    have f1 := h1.frozen
    have hsz := h1.lt
    have HP := Lib.hid hp
    clear hp hlt
    by_cases hxy : y ≤ x
    · by_cases he : x = y
      · have he1 : (x == y) = true := by rw [beq_iff_eq]; exact he
        have HE := Lib.hid he; clear he
        gi_wp2_with fail
        exact ⟨(KeepsOthers.setCell _ _ _).from _, ⟨rfl, pre, x, rfl, HP.out, hxy, (Below.heap_setCell W ⟨w.heap.size + 1, 0, none⟩ _ w.heap.size (by simp)).trans h0, by rw [decide_eq_true HE.out]; exact h1.set _⟩, hB.setCell (by simp) _⟩
      · have he1 : (x == y) = false := by rw [beq_eq_false_iff_ne]; exact he
        have HE := Lib.hid he; clear he
        gi_wp2_with fail
        exact ⟨(KeepsOthers.setCell _ _ _).from _, ⟨rfl, pre, x, rfl, HP.out, hxy, (Below.heap_setCell W ⟨w.heap.size + 1, 0, none⟩ _ w.heap.size (by simp)).trans h0, by rw [decide_eq_false HE.out]; exact h1.set _⟩, hB.setCell (by simp) _⟩
    · gi_wp2_with fail
      exact ⟨KeepsFrom.refl _ _, keepSp_refl _ _, ⟨fun z hz => (List.mem_append.1 hz).elim (HP.out z) (fun e => by simp at e; omega), h0, h1⟩, hB⟩
  case done =>
    rintro D ys W hD rfl ⟨⟨hp, h0, h1⟩, hB⟩ hK
    have q1 := h1.cell
    have f1 := h1.frozen
    gi_wp2
    have hK' := (KeepsOthers.setCell W ⟨w.heap.size + 1, 0, none⟩ (.bool false)).same D _ hK rfl
    refine ⟨by simp, .inl ⟨_, _, rfl, run_takeDeferred hK', ?_⟩⟩
    have hc5 := (boxed_kept_own (h1.set (.bool false)) (grownBy_putObj' _ D (.deferred none)) (fun r e => by cases e; exact ⟨_, hK', rfl⟩)).cell
    refine ⟨.bool false, ?_, false, rfl, .inl ⟨rfl, hp⟩, (hB.setCell (by simp) _).trans (belowK_b (w := w) (Nat.le_refl _) _ D _ _ (by simp at hD; omega) hK' rfl rfl)⟩
    simp [results, Try.f48, go_sem, hc5]
  case stop =>
    rintro D c pre W hD hpre ⟨⟨rfl, p, x, rfl, hp, hx, h0, h1⟩, hB⟩ hK
    have q1 := h1.cell
    gi_wp2
    refine ⟨by simp, .inl ⟨_, _, rfl, run_takeDeferred hK, ?_⟩⟩
    have hc5 := (boxed_kept_own h1 (grownBy_putObj' _ D (.deferred none)) (fun r e => by cases e; exact ⟨_, hK, rfl⟩)).cell
    refine ⟨.bool (decide (x = y)), ?_, _, rfl, .inr ⟨p, x, hpre, hp, hx, rfl⟩, hB.trans (belowK_b (w := w) (Nat.le_refl _) W D _ _ (by simp at hD; omega) hK rfl rfl)⟩
    simp [results, Try.f48, go_sem, hc5]

/-! The numbers of a set rise; they are what is in it. -/
theorem inc_ext : ∀ {l m : List Int}, l.Pairwise (· < ·) → m.Pairwise (· < ·) → (∀ x, x ∈ l ↔ x ∈ m) → l = m
  | [], [], _, _, _ => rfl
  | [], y :: m, _, _, h => absurd ((h y).2 (by simp)) (by simp)
  | x :: l, [], _, _, h => absurd ((h x).1 (by simp)) (by simp)
  | x :: l, y :: m, hl, hm, h => by
    rw [List.pairwise_cons] at hl hm
    have e : x = y := by
      have a := (h x).1 (by simp)
      have b := (h y).2 (by simp)
      rcases List.mem_cons.1 a with a | a
      · exact a
      · rcases List.mem_cons.1 b with b | b
        · exact b.symm
        · have := hl.1 y b; have := hm.1 x a; omega
    subst e
    congr 1
    refine inc_ext hl.2 hm.2 fun z => ?_
    constructor
    · intro hz
      have := hl.1 z hz
      rcases List.mem_cons.1 ((h z).1 (by simp [hz])) with e | e
      · omega
      · exact e
    · intro hz
      have := hm.1 z hz
      rcases List.mem_cons.1 ((h z).2 (by simp [hz])) with e | e
      · omega
      · exact e
theorem mem_runF {s x : Int} {k : Nat} : x ∈ runF s k ↔ s ≤ x ∧ x < s + k := by
  simp only [runF, List.mem_map, List.mem_range]
  constructor
  · rintro ⟨j, hj, rfl⟩; omega
  · rintro ⟨h1, h2⟩; exact ⟨(x - s).toNat, by omega, by omega⟩
theorem mem_spF {l : List Sp} {f x : Int} (hr : rightF f l = true) : x ∈ spF l ↔ memF l x = true := by
  rw [mem_iff]
  simp only [spF, List.mem_flatMap, mem_runF]
  constructor
  · rintro ⟨p, hp, h1, h2⟩
    have := right_mem hr p hp
    exact ⟨p, hp, by omega, by omega⟩
  · rintro ⟨p, hp, h1, h2⟩
    have := right_mem hr p hp
    exact ⟨p, hp, by omega, by omega⟩
theorem runF_inc (s : Int) (k : Nat) : (runF s k).Pairwise (· < ·) := by
  unfold runF
  rw [List.pairwise_map]
  exact List.pairwise_lt_range.imp fun h => by omega
theorem spF_inc : ∀ {l : List Sp} {f : Int}, rightF f l = true → (spF l).Pairwise (· < ·)
  | [], _, _ => List.Pairwise.nil
  | (s, n) :: r, f, h => by
    obtain ⟨h1, h2, h3, h4⟩ := right_cons h
    show (runF s n.toNat ++ spF r).Pairwise _
    rw [List.pairwise_append]
    refine ⟨runF_inc _ _, spF_inc h4, fun a ha b hb => ?_⟩
    rw [mem_runF] at ha
    have := mem_lo h4 ((mem_spF h4).1 hb)
    omega
theorem mem_numsTo {S : Int → Bool} {x : Int} : ∀ {k : Nat}, x ∈ numsTo S k ↔ 0 ≤ x ∧ x < k ∧ S x = true
  | 0 => by simp [numsTo]; omega
  | k + 1 => by
    simp only [numsTo]
    split
    · rename_i h
      rw [List.mem_append, mem_numsTo (k := k), List.mem_singleton]
      constructor
      · rintro (⟨a, b, c⟩ | rfl)
        · exact ⟨a, by omega, c⟩
        · exact ⟨by omega, by omega, h⟩
      · rintro ⟨a, b, c⟩
        by_cases e : x = k
        · exact .inr e
        · exact .inl ⟨a, by omega, c⟩
    · rename_i h
      rw [mem_numsTo (k := k)]
      constructor
      · rintro ⟨a, b, c⟩; exact ⟨a, by omega, c⟩
      · rintro ⟨a, b, c⟩
        refine ⟨a, ?_, c⟩
        by_cases e : x = k
        · subst e; exact absurd c h
        · omega
theorem numsTo_inc (S : Int → Bool) : ∀ k, (numsTo S k).Pairwise (· < ·)
  | 0 => List.Pairwise.nil
  | k + 1 => by
    simp only [numsTo]
    split
    · rw [List.pairwise_append]
      exact ⟨numsTo_inc S k, by simp, fun a ha b hb => by
        have := (mem_numsTo.1 ha).2.1
        rw [List.mem_singleton] at hb
        omega⟩
    · exact numsTo_inc S k
theorem spF_nums {l : List Sp} (hr : rightF 0 l = true) : spF l = numsTo (memF l) 4096 :=
  inc_ext (spF_inc hr) (numsTo_inc _ _) fun x => by
    rw [mem_spF hr, mem_numsTo]
    constructor
    · intro h; have := mem_lo hr h; exact ⟨by omega, by omega, h⟩
    · rintro ⟨_, _, h⟩; exact h
theorem spF_len {l : List Sp} (hr : rightF 0 l = true) : (spF l).length ≤ 4096 := by rw [spF_nums hr]; exact numsTo_len _ _

theorem has_any (A : Option Addr) (c : Nat) (l : List Sp) (y : Int) (w : World) (hs : Rd w w.heap.size A (spc l)) (hr : rightF 0 l = true) :
    Calls Try.prog 48 #[.slice A l.length c, .int .i64 y] w fun e w' => e = .returned (.bool (memF l y)) ∧ Below w.heap.size w w' := by
  refine (has_run A c l y w hs hr).mono ?_
  rintro e w' ⟨r, rfl, h, hb⟩
  refine ⟨ret_bool ?_, hb⟩
  rcases h with ⟨rfl, h⟩ | ⟨p, x, hp, h1, h2, rfl⟩
  · cases hm : memF l y
    · rfl
    · have := h y ((mem_spF hr).2 hm)
      omega
  · have hinc := spF_inc hr
    obtain ⟨t, ht⟩ := hp
    have hx : x ∈ spF l := by rw [← ht]; simp
    by_cases e : x = y
    · subst e
      rw [decide_eq_true rfl, (mem_spF hr).1 hx]
    · rw [decide_eq_false e]
      cases hm : memF l y
      · rfl
      · have hy := (mem_spF hr).2 hm
        rw [← ht, List.append_assoc, List.pairwise_append] at hinc
        rw [← ht] at hy
        simp only [List.append_assoc, List.mem_append, List.mem_cons, List.not_mem_nil, or_false] at hy
        rcases hy with hy | hy | hy
        · have := h1 y hy; omega
        · exact absurd hy.symm e
        · obtain ⟨_, h4, _⟩ := hinc
          rw [List.singleton_append, List.pairwise_cons] at h4
          have := h4.1 y hy
          omega
end
section
open Go.RowKit

theorem own_slice {w : World} {base : Nat} {v : Value} {R : List Sp} (h : OwnR w base v R.reverse) : ∃ A c, v = .slice A R.length c ∧ Rd w w.heap.size A (spc R) ∧ R.length ≤ c := by
  obtain ⟨A, c, rfl, h1, h2⟩ := own_rd h
  rw [List.length_reverse] at h2 ⊢
  rw [List.reverse_reverse] at h1
  exact ⟨A, c, rfl, h1, h2⟩
/-- A call that answers a set in new memory. -/
def Gives (l : List Sp) (w : World) (e : Ending) (w' : World) : Prop := ∃ A c, e = .returned (.slice A l.length c) ∧ Rd w' w'.heap.size A (spc l) ∧ l.length ≤ c ∧ Below w.heap.size w w'
theorem gives_of {l : List Sp} {w w' : World} {e : Ending} {v : Value} (he : e = .returned v) (h : OwnR w' w.heap.size v l.reverse) (hb : Below w.heap.size w w') : Gives l w e w' := by
  obtain ⟨A, c, rfl, h1, h2⟩ := own_slice h
  exact ⟨A, c, he, h1, h2, hb⟩

def joinS (l m : List Sp) : List Sp := canon fun x => memF l x || memF m x
def cutS (l m : List Sp) : List Sp := canon fun x => memF l x && !memF m x
def bothS (l m : List Sp) : List Sp := canon fun x => memF l x && memF m x

section
variable (A A' : Option Addr) (c c' : Nat) (l m : List Sp) (w : World) (hs : Rd w w.heap.size A (spc l)) (hr : rightF 0 l = true) (hs' : Rd w w.heap.size A' (spc m)) (hr' : rightF 0 m = true) (hc : l.length ≤ c) (hc' : m.length ≤ c')
include hs hr hs' hr' hc hc'
end

theorem rd_new (w : World) (cs : Array Value) (t : TypeId) : Rd (w.alloc (.cells cs t)) (w.alloc (.cells cs t)).heap.size (some ⟨w.heap.size, 0, none⟩) cs.toList := fun _ =>
  ⟨w.heap.size, 0, rfl, by simp, fun j v hv => by rw [Nat.zero_add, (Blk.new w t cs).cell j]; simpa using hv⟩

def aliveL : List Sp := [(3, 3), (9, 1)]
theorem alive_canon : canon (inI [5, 3, 4, 9]) = aliveL := canon_eq (by decide) fun n _ _ => by
  rw [Bool.eq_iff_iff, mem_iff]
  simp [inI, aliveL]
  omega
theorem alive_of (g : Nat) (w : World) (hs : Rd w w.heap.size (some ⟨g, 0, none⟩) (ints [5, 3, 4, 9])) :
    Calls Try.prog 65 #[.slice (some ⟨g, 0, none⟩) 4 4] w (Gives aliveL w) := by
  refine (of_any _ 4 [5, 3, 4, 9] w hs (by simp)).mono ?_
  rintro e w' ⟨v, rfl, ho, hb⟩
  rw [alive_canon] at ho
  exact gives_of rfl ho hb
theorem right_nil (w : World) : Calls Try.prog 64 #[.slice none 0 0] w fun e w' => e = .returned (.bool true) ∧ Below w.heap.size w w' := right_any none 0 [] w Rd.nil (by simp [SpOk]) (by simp)
end
section
open Go.RowKit

structure SetAt (w : World) (A : Option Addr) (c : Nat) (l : List Sp) : Prop where
  rd : Rd w w.heap.size A (spc l)
  right : rightF 0 l = true
  cap : l.length ≤ c
theorem SetAt.later {w w' : World} {A : Option Addr} {c : Nat} {l : List Sp} (h : SetAt w A c l) (hb : Below w.heap.size w w') : SetAt w' A c l := ⟨(h.rd.below hb).mono hb.size, h.right, h.cap⟩
theorem below_next {w0 w w' : World} (h : Below w0.heap.size w0 w) (k : Below w.heap.size w w') : Below w0.heap.size w0 w' := h.trans (k.mono h.size)

/-- A call that answers a set in new memory, and leaves what lay. -/
def GivesS (l : List Sp) (w : World) (e : Ending) (w' : World) : Prop := ∃ A c, e = .returned (.slice A l.length c) ∧ SetAt w' A c l ∧ Below w.heap.size w w'
theorem gives_set {S : Int → Bool} {w w' : World} {e : Ending} (h : Gives (canon S) w e w') : GivesS (canon S) w e w' := by
  obtain ⟨A, c, he, h1, h2, hb⟩ := h
  exact ⟨A, c, he, ⟨h1, canon_right S, h2⟩, hb⟩
theorem joinS_right (l m : List Sp) : rightF 0 (joinS l m) = true := canon_right _
theorem cutS_right (l m : List Sp) : rightF 0 (cutS l m) = true := canon_right _
theorem bothS_right (l m : List Sp) : rightF 0 (bothS l m) = true := canon_right _
theorem len_le {l : List Sp} (h : rightF 0 l = true) : (l.length : Int) ≤ 4097 := by have := right_len (by omega) (by omega) h; omega

section
variable {A A' : Option Addr} {c c' : Nat} {l m : List Sp} {w : World}
theorem right_set (h : SetAt w A c l) : Calls Try.prog 64 #[.slice A l.length c] w fun e w' => e = .returned (.bool true) ∧ Below w.heap.size w w' := by
  have h1 := right_any A c l w h.rd (right_ok (by omega) h.right) (by have := len_le h.right; omega)
  rw [h.right] at h1
  exact h1
theorem has_set (h : SetAt w A c l) (y : Int) : Calls Try.prog 48 #[.slice A l.length c, .int .i64 y] w fun e w' => e = .returned (.bool (memF l y)) ∧ Below w.heap.size w w' := has_any A c l y w h.rd h.right
theorem of_set {L : List Int} (hs : Rd w w.heap.size A (ints L)) (hl : L.length ≤ 4611686018427387903) : Calls Try.prog 65 #[.slice A L.length c] w (GivesS (canon (inI L)) w) :=
  (of_any A c L w hs hl).mono fun _ _ ⟨_, he, ho, hb⟩ => gives_set (gives_of he ho hb)
/-- Numbers in new memory. -/
def GivesI (L : List Int) (w : World) (e : Ending) (w' : World) : Prop := ∃ A c, e = .returned (.slice A L.length c) ∧ Rd w' w'.heap.size A (ints L) ∧ Below w.heap.size w w'
end

theorem addr_plain (b off j : Nat) : (⟨b, off, none⟩ : Addr).add j = ⟨b, off + j, none⟩ := by unfold Addr.add; split <;> simp_all
/-- append of a whole list of numbers, nil or not. -/
theorem app_ints {ops : Array Oper} {rest : List Oper} {o : Oper} {a : Act} {w : World} {Q : Exit → Act → World → Prop} (hgd : o.guard = none) (s x : Nat)
    (ho : o.op = .call { callee := .builtin .append, args := #[.tmp s, .tmp x], argTypes := #[35, 35] })
    (base : Nat) (v : Value) (l0 : List Int) (hs : a.eval (.tmp s) = v) (hown : OwnI w base v l0) (A : Option Addr) (c : Nat) (l : List Int)
    (hx : a.eval (.tmp x) = .slice A l.length c) (hr : Rd w w.heap.size A (ints l)) (hN : A = none → c = 0) (hbase : base ≤ w.heap.size) (hR : (l0.length + l.length) * 8 ≤ 140737488355328)
    (h : ∀ v' w', OwnI w' base v' (l0 ++ l) → w.grownBy w' v.ownBlock → wpList Try.prog ops Q rest (a.put o.dst v') w') :
    wpList Try.prog ops Q (o :: rest) a w := by
  obtain ⟨i0, hi0, hz0, hz1, hz2⟩ := info_parts infoInt
  rcases A with _ | ad
  · have hl : l = [] := by
      rcases l with _ | ⟨y, r⟩
      · rfl
      · obtain ⟨b, off, e, _⟩ := hr (by simp [ints])
        cases e
    subst hl
    rw [hN rfl] at hx
    refine wpList_append_own_none hgd (.tmp s) (.tmp x) _ ho base 3 i0 1 Try.underlying35 hi0 v l0.length (ints l0) hs hown hx ?_
    exact h v w (by rw [List.append_nil]; exact hown) (World.grownBy.refl w _)
  · refine wpList_append_own w hgd (.tmp s) (.tmp x) _ ho base 3 i0 _ 1 8 Try.underlying35 hi0 hz0 hz1 hz2 rfl (by omega) v l0.length (ints l0) hs hown
      ad l.length c (ints l) hx (by rw [ints_len]; omega) (fun j u hu => ?_) ints_one (by simp only [maxLen]; omega) hR hbase ?_
    · obtain ⟨b, off, e, _, hc⟩ := hr (by have := (List.getElem?_eq_some_iff.1 hu).1; omega)
      simp only [Option.some.injEq] at e
      subst e
      rw [addr_plain]
      exact hc j u hu
    · intro v' w' h1 h2 _
      refine h v' w' ?_ h2
      show w'.ownsRow base 3 1 v' (l0 ++ l).length (ints (l0 ++ l))
      rw [ints_app, List.length_append]
      exact h1
/-- append of a whole list of spans, nil or not. -/
theorem app_spans {ops : Array Oper} {rest : List Oper} {o : Oper} {a : Act} {w : World} {Q : Exit → Act → World → Prop} (hgd : o.guard = none) (s x : Nat)
    (ho : o.op = .call { callee := .builtin .append, args := #[.tmp s, .tmp x], argTypes := #[98, 98] })
    (base : Nat) (v : Value) (l0 : List Sp) (hs : a.eval (.tmp s) = v) (hown : w.ownsRow base 115 2 v l0.length (spc l0)) (A : Option Addr) (c : Nat) (l : List Sp)
    (hx : a.eval (.tmp x) = .slice A l.length c) (hr : Rd w w.heap.size A (spc l)) (hN : A = none → c = 0) (hbase : base ≤ w.heap.size) (hR : (l0.length + l.length) * 16 ≤ 140737488355328)
    (h : ∀ v' w', w'.ownsRow base 115 2 v' (l0 ++ l).length (spc (l0 ++ l)) → w.grownBy w' v.ownBlock → wpList Try.prog ops Q rest (a.put o.dst v') w') :
    wpList Try.prog ops Q (o :: rest) a w := by
  obtain ⟨i0, hi0, hz0, hz1, hz2⟩ := info_parts infoSpan
  rcases A with _ | ad
  · have hl : l = [] := by
      rcases l with _ | ⟨y, r⟩
      · rfl
      · obtain ⟨b, off, e, _⟩ := hr (by simp [spc])
        cases e
    subst hl
    rw [hN rfl] at hx
    refine wpList_append_own_none hgd (.tmp s) (.tmp x) _ ho base 115 i0 2 Try.underlying98 hi0 v l0.length (spc l0) hs hown hx ?_
    exact h v w (by rw [List.append_nil]; exact hown) (World.grownBy.refl w _)
  · refine wpList_append_own w hgd (.tmp s) (.tmp x) _ ho base 115 i0 _ 2 16 Try.underlying98 hi0 hz0 hz1 hz2 rfl (by omega) v l0.length (spc l0) hs hown
      ad l.length c (spc l) hx (spc_len l) (fun j u hu => ?_) spc_one (by simp only [maxLen]; omega) hR hbase ?_
    · obtain ⟨b, off, e, _, hc⟩ := hr (by have := (List.getElem?_eq_some_iff.1 hu).1; omega)
      simp only [Option.some.injEq] at e
      subst e
      rw [addr_plain]
      exact hc j u hu
    · intro v' w' h1 h2 _
      refine h v' w' ?_ h2
      rw [spc_app, List.length_append]
      exact h1
theorem own_empty (w : World) (e size : Nat) : (w.alloc (.cells #[] e)).ownsRow w.heap.size e size (.slice (some ⟨w.heap.size, 0, none⟩) 0 0) 0 [] := by
  have h := World.ownsRow_lit (base := w.heap.size) (e := e) (size := size) w #[] 0 (Nat.le_refl _) (by simp) (by simp)
  simpa using h
end
end Go.Proofs.Ytdcegkeaopjbnaa
