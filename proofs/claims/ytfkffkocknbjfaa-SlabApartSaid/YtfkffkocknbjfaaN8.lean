/- The laws on slabs, walked over the calls' contracts: SlabApart. -/
import Derived.Test.YtfkffkocknbjfaaN7
import Derived.Deep.RegionHeld3
set_option maxRecDepth 10000
namespace Go.Proofs.Ytfkffkocknbjfaa
open Go.RowKit

/-- A whole array of bools is stored over another: no other block turns. -/
theorem st_arr2 {ops : Array Oper} {rest : List Oper} {o : Oper} {a : Act} {w : World} {Q : Exit → Act → World → Prop} (hgd : o.guard = none) (x y : Operand) (ho : o.op = .store 29 x y)
    (g : Nat) (S T : Int → Bool) (hx : a.eval x = .pointer (some ⟨g, 0, none⟩)) (hy : a.eval y = .agg (barr T)) (hg : Blk w g 29 (barr S))
    (h : ∀ w', Blk w' g 29 (barr T) → Chg w w' (· = g) → wpList Try.prog ops Q rest (a.put o.dst undef) w') : wpList Try.prog ops Q (o :: rest) a w :=
  wpList_store_row hgd _ x y ho g (barr T) hx hy 29 (barr S) hg (sizeArr' T) (by rw [barr_size, barr_size]) (barr_one T)
    (h _ (by unfold Blk at hg ⊢; simp [World.setRow, Array.getElem?_modify, hg]) (Chg.setRow (O := (· = g)) (Chg.refl _ _) (.inl rfl) _))
section
variable {At : World → (Nat → Prop) → Nat → Mp → Prop}
/-- A map, and the law's two arrays. -/
structure AInv (At : World → (Nat → Prop) → Nat → Mp → Prop) (w0 w : World) (O : Nat → Prop) (g gh gw : Nat) (m : Mp) (H W : Int → Bool) : Prop where
  has : Has At w0 w O g m
  hb : Blk w gh 29 (barr H)
  wb : Blk w gw 29 (barr W)
  ne : gh ≠ gw
  lh : w0.heap.size ≤ gh
  lw : w0.heap.size ≤ gw
  nh : ¬ O gh
  nw : ¬ O gw
variable {w0 w w' : World} {O O' : Nat → Prop} {g gh gw : Nat} {m m' : Mp} {H W H' W' : Int → Bool}
theorem AInv.step (h : AInv At w0 w O g gh gw m H W) (k : At w' O' g m') (s : Step w w' O O') : AInv At w0 w' O' g gh gw m' H W :=
  ⟨h.has.step k s, h.hb.chg s.chg h.nh, h.wb.chg s.chg h.nw, h.ne, h.lh, h.lw,
    fun ho => (s.new _ ho).elim h.nh fun h1 => by have := h.hb.lt; omega, fun ho => (s.new _ ho).elim h.nw fun h1 => by have := h.wb.lt; omega⟩
theorem AInv.far (L : SlabCalls At) (h : AInv At w0 w O g gh gw m H W) (hb : Below w.heap.size w w') : AInv At w0 w' O g gh gw m H W :=
  ⟨h.has.far L hb, h.hb.below hb h.hb.lt, h.wb.below hb h.wb.lt, h.ne, h.lh, h.lw, h.nh, h.nw⟩
theorem Has.chg (L : SlabCalls At) (h : Has At w0 w O g m) {k : Nat} (c : Chg w w' (· = k)) (hk : w0.heap.size ≤ k) (hO : ¬ O k) : Has At w0 w' O g m :=
  ⟨L.stay h.at_ c (fun _ hj e => hO (e ▸ hj)), h.lo, h.below.trans (c.below (fun _ e => e ▸ hk) h.below.size)⟩
theorem AInv.had (L : SlabCalls At) (h : AInv At w0 w O g gh gw m H W) (c : Chg w w' (· = gh)) (b : Blk w' gh 29 (barr H')) : AInv At w0 w' O g gh gw m H' W :=
  ⟨h.has.chg L c h.lh h.nh, b, h.wb.chg c (Ne.symm h.ne), h.ne, h.lh, h.lw, h.nh, h.nw⟩
theorem AInv.wts (L : SlabCalls At) (h : AInv At w0 w O g gh gw m H W) (c : Chg w w' (· = gw)) (b : Blk w' gw 29 (barr W')) : AInv At w0 w' O g gh gw m H W' :=
  ⟨h.has.chg L c h.lw h.nw, h.hb.chg c h.ne, b, h.ne, h.lh, h.lw, h.nh, h.nw⟩
/-- One bool is stored. -/
def setB (S : Int → Bool) (k : Nat) (b : Bool) (n : Int) : Bool := if n = k then b else S n
theorem barr_put (S : Int → Bool) (k : Nat) (b : Bool) (hk : k < 4096) : (barr S).setIfInBounds k (.bool b) = barr (setB S k b) :=
  barr_set k hk (by unfold setB; rw [if_pos rfl]) fun n _ _ hn => by unfold setB; rw [if_neg hn]
theorem AInv.hset (L : SlabCalls At) (h : AInv At w0 w O g gh gw m H W) (k : Nat) (b : Bool) (hk : k < 4096) : AInv At w0 (w.setCell ⟨gh, k, none⟩ (.bool b)) O g gh gw m (setB H k b) W :=
  h.had L (Chg.setCell (O := (· = gh)) (p := ⟨gh, k, none⟩) (Chg.refl _ _) (.inl rfl) _) (by rw [← barr_put H k b hk]; exact h.hb.set_ k _)
theorem AInv.wset (L : SlabCalls At) (h : AInv At w0 w O g gh gw m H W) (k : Nat) (b : Bool) (hk : k < 4096) : AInv At w0 (w.setCell ⟨gw, k, none⟩ (.bool b)) O g gh gw m H (setB W k b) :=
  h.wts L (Chg.setCell (O := (· = gw)) (p := ⟨gw, k, none⟩) (Chg.refl _ _) (.inl rfl) _) (by rw [← barr_put W k b hk]; exact h.wb.set_ k _)
end
/-- What the law's arrays tell of a map. -/
structure ARel (m : Mp) (t : Nat) (H W : Int → Bool) : Prop where
  tot : m.tot = t
  had : ∀ n : Nat, n < 4096 → H n = m.is 1 n
  wts : ∀ n : Nat, n < 4096 → W n = m.is 2 n
theorem rel_new {t : Nat} (ht : t ≤ 1024) : ARel (newMp t) t noB noB := by
  refine ⟨?_, fun n _ => ?_, fun n _ => ?_⟩
  · show (min (max (t : Int) 0) 1024).toNat = t
    omega
  · show false = (decide (4 ≤ n) && decide (n < (newMp t).tot) && (0 == 1))
    simp
  · show false = (decide (4 ≤ n) && decide (n < (newMp t).tot) && (0 == 2))
    simp
section
variable {m : Mp} {t n : Nat} {H W : Int → Bool}
theorem setB_nat (S : Int → Bool) (k j : Nat) (b : Bool) : setB S k b (j : Int) = if j = k then b else S j := by
  unfold setB
  by_cases h : j = k
  · rw [if_pos (by omega), if_pos h]
  · rw [if_neg (by omega), if_neg h]
theorem ARel.free (h : ARel m t H W) (hn : m.is 1 n = true) : ARel (m.put n 0) t (setB H n false) W := by
  refine ⟨h.tot, fun j hj => ?_, fun j hj => ?_⟩
  · rw [setB_nat]
    by_cases e : j = n
    · subst e; rw [if_pos rfl, Mp.put_is_self]; simp
    · rw [if_neg e, Mp.put_is_ne e, h.had j hj]
  · by_cases e : j = n
    · subst e
      rw [h.wts j hj, Mp.put_is_self]
      unfold Mp.is
      rw [(Mp.is_iff.1 hn).2.2]
      simp
    · rw [Mp.put_is_ne e, h.wts j hj]
theorem ARel.later (h : ARel m t H W) (hn : m.is 1 n = true) : ARel (m.put n 2) t (setB H n false) (setB W n true) := by
  obtain ⟨g1, g2, _⟩ := Mp.is_iff.1 hn
  refine ⟨h.tot, fun j hj => ?_, fun j hj => ?_⟩
  · rw [setB_nat]
    by_cases e : j = n
    · subst e; rw [if_pos rfl, Mp.put_is_self]; simp
    · rw [if_neg e, Mp.put_is_ne e, h.had j hj]
  · rw [setB_nat]
    by_cases e : j = n
    · subst e; rw [if_pos rfl, Mp.put_is_self, decide_eq_true g1, decide_eq_true g2]; rfl
    · rw [if_neg e, Mp.put_is_ne e, h.wts j hj]
theorem ARel.keep (h : ARel m t H W) (hn : m.is 1 n = false) (b : Bool) (hb : n < 4096 → b = W n) : ARel m t (setB H n false) (setB W n b) := by
  refine ⟨h.tot, fun j hj => ?_, fun j hj => ?_⟩
  · rw [setB_nat]
    by_cases e : j = n
    · subst e; rw [if_pos rfl, hn]
    · rw [if_neg e, h.had j hj]
  · rw [setB_nat]
    by_cases e : j = n
    · subst e; rw [if_pos rfl, hb hj, h.wts j hj]
    · rw [if_neg e, h.wts j hj]
theorem ARel.keep' (h : ARel m t H W) (hn : m.is 1 n = false) : ARel m t (setB H n false) W := by
  refine ⟨h.tot, fun j hj => ?_, h.wts⟩
  rw [setB_nat]
  by_cases e : j = n
  · subst e; rw [if_pos rfl, hn]
  · rw [if_neg e, h.had j hj]
theorem ARel.commit (h : ARel m t H W) : ARel m.commit t H noB := by
  refine ⟨h.tot, fun j hj => ?_, fun j _ => ?_⟩
  · rw [h.had j hj, Bool.eq_iff_iff, Mp.is_iff, Mp.is_iff]
    show 4 ≤ j ∧ j < m.tot ∧ m.st j = 1 ↔ 4 ≤ j ∧ j < m.tot ∧ (if m.st j = 2 then 0 else m.st j) = 1
    by_cases e : m.st j = 2
    · rw [if_pos e]; omega
    · rw [if_neg e]
  · show false = m.commit.is 2 j
    symm
    cases hi : m.commit.is 2 j with
    | false => rfl
    | true =>
      have h2 : (if m.st j = 2 then 0 else m.st j) = 2 := (Mp.is_iff.1 hi).2.2
      by_cases e : m.st j = 2
      · rw [if_pos e] at h2; omega
      · rw [if_neg e] at h2; exact absurd h2 e
end
/-- Some numbers more. -/
def addB (H : Int → Bool) (l : List Nat) (x : Int) : Bool := H x || l.any fun k => decide ((k : Int) = x)
theorem addB_nat (H : Int → Bool) (l : List Nat) (n : Nat) : addB H l (n : Int) = (H n || decide (n ∈ l)) := by
  unfold addB
  rw [Bool.eq_iff_iff]
  simp only [Bool.or_eq_true, List.any_eq_true, decide_eq_true_eq]
  constructor
  · rintro (h | ⟨k, hk, e⟩)
    · exact .inl h
    · obtain rfl : k = n := by omega
      exact .inr hk
  · rintro (h | h)
    · exact .inl h
    · exact .inr ⟨n, h, rfl⟩
theorem addB_step (H : Int → Bool) (l : List Nat) (j : Nat) (hj : j < l.length) : setB (addB H (l.take j)) l[j] true = addB H (l.take (j + 1)) := by
  funext x
  unfold setB addB
  rw [List.take_succ_eq_append_getElem hj, List.any_append]
  by_cases e : x = (l[j] : Int)
  · subst e; simp
  · rw [if_neg e]
    have : decide ((l[j] : Int) = x) = false := decide_eq_false fun h => e h.symm
    simp [this]
theorem ARel.many {m : Mp} {t n : Nat} {H W : Int → Bool} {r : List Nat × Mp} (h : ARel m t H W) (g : Gave m n r) : ARel r.2 t (addB H r.1) W := by
  refine ⟨g.tot.trans h.tot, fun j hj => ?_, fun j hj => ?_⟩
  · rw [addB_nat, h.had j hj, Bool.eq_iff_iff, Bool.or_eq_true, decide_eq_true_eq, Mp.is_iff, Mp.is_iff, g.st, g.tot]
    by_cases e : j ∈ r.1
    · have := Mp.is_iff.1 (g.was j e).1
      rw [if_pos e]
      exact ⟨fun _ => ⟨this.1, this.2.1, rfl⟩, fun _ => .inr e⟩
    · rw [if_neg e]
      exact ⟨fun h => h.elim id fun h => absurd h e, .inl⟩
  · rw [h.wts j hj, Bool.eq_iff_iff, Mp.is_iff, Mp.is_iff, g.st, g.tot]
    by_cases e : j ∈ r.1
    · have := (Mp.is_iff.1 (g.was j e).1).2.2
      rw [if_pos e]
      omega
    · rw [if_neg e]
/-- What is given was not had, and did not wait. -/
theorem ARel.given {m : Mp} {t n : Nat} {H W : Int → Bool} {r : List Nat × Mp} (h : ARel m t H W) (g : Gave m n r) (j : Nat) (hj : j < r.1.length) :
    4 ≤ r.1[j] ∧ r.1[j] < t ∧ r.1[j] < 1024 ∧ addB H (r.1.take j) (r.1[j] : Nat) = false ∧ W (r.1[j] : Nat) = false := by
  obtain ⟨h1, h2⟩ := g.was _ (List.getElem_mem hj)
  obtain ⟨g1, g2, g3⟩ := Mp.is_iff.1 h1
  refine ⟨g1, by rw [← h.tot]; exact g2, h2, ?_, ?_⟩
  · rw [addB_nat, h.had _ (by omega)]
    have e1 : m.is 1 r.1[j] = false := by unfold Mp.is; rw [g3]; simp
    have e2 : ¬ r.1[j] ∈ r.1.take j := fun hm => by
      obtain ⟨i, hi, e⟩ := List.getElem_of_mem hm
      rw [List.getElem_take] at e
      have hi2 : i < j := by rw [List.length_take] at hi; omega
      have := List.pairwise_iff_getElem.1 g.nodup i j (by omega) hj hi2
      exact this e
    rw [e1, decide_eq_false e2]
    rfl
  · rw [h.wts _ (by omega)]
    unfold Mp.is
    rw [g3]
    simp
end Go.Proofs.Ytfkffkocknbjfaa
