/- The texts T1 T2 T3 ET T4 T5 T6 T7 T8 T9. -/
import Derived.Test.YtagkhicbngaghaaOA
import Derived.Test.YtagkhicbngaghaaHA
import Derived.Test.YtagkhicbngaghaaDA
import Derived.Lib.SmallJoins
import Derived.Deep.Cut
import Derived.Deep.RegionHeld3
import Derived.Deep.AppendLies
set_option maxRecDepth 10000
namespace Go.Proofs.Ytagkhicbngaghaa

section
open Go.RowKit

/-! ### What a pile holds -/
theorem hole_iff {q : PtrV} : holeF q.1 q.2.1 q.2.2 = true ↔ q = hole0 := by
  obtain ⟨a, b, c⟩ := q
  unfold holeF hole0
  simp [and_assoc]
theorem sumS_lt (x : Sec) : sumS x < 4294967296 := by
  unfold sumS moreF notF
  omega
structure OkW (P : Pw) : Prop where
  nwl : P.m.tot ≤ P.nw.length
  tot : P.m.tot ≤ 1024
  st1 : 1 ≤ P.st
  stM : P.st ≤ 281474976710655
/-- The pointer is a hole, or leads to a sector that is taken and holds these bytes. -/
def Held (P : Pw) (q : PtrV) (x : Sec) : Prop :=
  (q = hole0 ∧ x = zsec) ∨ ∃ (i : Nat) (b : Int), q = ((i : Int), b, (sumS x : Int)) ∧ 1 ≤ b ∧ b ≤ 281474976710655 ∧ P.m.is 1 i = true ∧ P.nw.getD i zsec = x
theorem held_hole (P : Pw) : Held P hole0 zsec := .inl ⟨rfl, rfl⟩
section
variable {P P' : Pw} {q : PtrV} {x : Sec}
theorem Held.get (ok : OkW P) (h : Held P q x) : getS P q = (x, 0) := by
  rcases h with ⟨rfl, rfl⟩ | ⟨i, b, rfl, h1, _, hi, hx⟩
  · exact get_hole P
  · exact get_same (hole_ne (by omega)) (by have := (Mp.is_iff.1 hi).2.1; have := ok.nwl; omega) hx
theorem Held.zero (h : Held P hole0 x) : x = zsec := by
  rcases h with ⟨_, h⟩ | ⟨i, b, he, h1, _⟩
  · exact h
  · have : (0 : Int) = b := congrArg (fun q : PtrV => q.2.1) he
    omega
theorem Held.at_ (h : Held P q x) (hq : q ≠ hole0) : ∃ i : Nat, q.1 = (i : Int) ∧ 4 ≤ i ∧ i < P.m.tot ∧ P.m.is 1 i = true ∧ 1 ≤ q.2.1 ∧ q.2.1 ≤ 281474976710655 ∧ 0 ≤ q.2.2 ∧ q.2.2 < 4294967296 := by
  rcases h with ⟨h, _⟩ | ⟨i, b, rfl, h1, h2, hi, hx⟩
  · exact absurd h hq
  · obtain ⟨h3, h4, _⟩ := Mp.is_iff.1 hi
    have := sumS_lt x
    exact ⟨i, rfl, h3, h4, hi, h1, h2, by simp only; omega, by simp only; omega⟩
theorem Held.right (ok : OkW P) (h : Held P q x) : rightQ q = true ∧ PtrOk q := by
  by_cases hq : q = hole0
  · subst hq
    exact ⟨rfl, hole_ok8⟩
  · obtain ⟨i, h1, h4, ht, _, hb1, hb2, hs1, hs2⟩ := h.at_ hq
    have := ok.tot
    obtain ⟨a, b, c⟩ := q
    simp only at h1 hb1 hb2 hs1 hs2
    subst h1
    refine ⟨?_, ?_⟩
    · show (holeF _ b c || canF _ b) = true
      rw [can_yes ⟨by omega, by omega, hb1, hb2⟩, Bool.or_true]
    · unfold PtrOk
      refine ⟨?_, ?_, ?_, ?_, ?_, ?_⟩ <;> simp only <;> omega
end
/-! ### One put -/
/-- A pointer's share of a sector; of all that are told. -/
def cA (a : Nat) (q : PtrV) : Nat := if q ≠ hole0 ∧ q.1 = (a : Int) then 1 else 0
def cN (q : PtrV) : Nat := if q ≠ hole0 then 1 else 0
def tk (P : Pw) (a : Nat) : Nat := if P.m.is 1 a = true then 1 else 0
theorem cA_hole (a : Nat) : cA a hole0 = 0 := if_neg fun h => h.1 rfl
theorem cN_hole : cN hole0 = 0 := if_neg fun h => h rfl
/-- What a put, or none, leaves. -/
structure Grew (P P' : Pw) (q : PtrV) : Prop where
  held : ∀ {r : PtrV} {x : Sec}, Held P r x → Held P' r x
  ok : OkW P'
  st : P'.st = P.st
  tot : P'.m.tot = P.m.tot
  N : P'.N ≤ P.N + 1
  tk : ∀ a, tk P' a = tk P a + cA a q
  cnt : P'.m.count + cN q = P.m.count
  born : q = hole0 ∨ q.2.1 = (P.st : Int)
theorem Grew.same {P : Pw} (ok : OkW P) : Grew P P hole0 :=
  ⟨id, ok, rfl, rfl, Nat.le_succ _, fun a => by rw [cA_hole, Nat.add_zero], by rw [cN_hole, Nat.add_zero], .inl rfl⟩
theorem Held.put {P : Pw} {q : PtrV} {x : Sec} (h : Held P q x) {i : Nat} (hi : P.m.is 0 i = true) (y : Sec) : Held ⟨P.nw.set i y, P.m.put i 1, P.st, P.ba, P.N + 1⟩ q x := by
  rcases h with h | ⟨j, b, rfl, h1, h2, hj, hx⟩
  · exact .inl h
  · have hne : j ≠ i := fun e => by
      subst e
      have h3 := (Mp.is_iff.1 hi).2.2
      have h4 := (Mp.is_iff.1 hj).2.2
      omega
    refine .inr ⟨j, b, rfl, h1, h2, ?_, ?_⟩
    · show (P.m.put i 1).is 1 j = true
      rw [Mp.put_is_ne hne, hj]
    · show (P.nw.set i y).getD j zsec = x
      rw [← hx, List.getD_eq_getElem?_getD, List.getD_eq_getElem?_getD, List.getElem?_set_ne (Ne.symm hne)]
/-- A put where there is room. -/
theorem put_grew {P : Pw} (ok : OkW P) {l : List UInt8} (hl : l.length ≤ 128) (hc : 0 < P.m.count) : putC P l = 0 ∧ Grew P (putP P l) (putQ P l) ∧ Held (putP P l) (putQ P l) (blockS l) ∧ putQ P l ≠ hole0 := by
  cases hx : P.m.next with
  | none =>
    have := next_none.1 hx
    omega
  | some i =>
    obtain ⟨e1, e2, e3⟩ := pput_yes (P := P) (l := l) (by omega) hx
    obtain ⟨h0, h1024, _⟩ := next_some hx
    obtain ⟨g4, gt, g0⟩ := Mp.is_iff.1 h0
    have hq : ((i : Int), (P.st : Int), (sumS (blockS l) : Int)) ≠ hole0 := hole_ne (by have := ok.st1; omega)
    have hi1 : (P.m.put i 1).is 1 i = true := by rw [Mp.put_is_self, decide_eq_true g4, decide_eq_true gt]; rfl
    have hw := ok.nwl
    rw [e1, e2, e3]
    refine ⟨rfl, ⟨fun h => h.put h0 _, ⟨by show P.m.tot ≤ (P.nw.set i _).length; rw [List.length_set]; exact ok.nwl, ok.tot, ok.st1, ok.stM⟩, rfl, rfl, Nat.le_refl _, fun a => ?_, ?_, .inr rfl⟩, .inr ⟨i, _, rfl, by have := ok.st1; omega, by have := ok.stM; omega, hi1, ?_⟩, hq⟩
    · unfold Go.Proofs.Ytagkhicbngaghaa.tk cA
      show (if (P.m.put i 1).is 1 a = true then 1 else 0) = _
      by_cases ha : a = i
      · subst ha
        have h1 : P.m.is 1 a = false := by
          rw [Bool.eq_false_iff]
          intro h
          have := (Mp.is_iff.1 h).2.2
          omega
        rw [if_pos hi1, h1, if_neg (by simp), if_pos ⟨hq, rfl⟩]
      · rw [Mp.put_is_ne ha, if_neg (c := _ ∧ _) (fun h => ha (by have := h.2; simp only at this; omega)), Nat.add_zero]
    · have := count_take h0 h1024 (s := 1) (by omega)
      show (P.m.put i 1).count + cN _ = _
      unfold cN
      rw [if_pos hq]
      omega
    · show (P.nw.set i (blockS l)).getD i zsec = _
      rw [List.getD_eq_getElem?_getD, List.getElem?_set_self (by omega)]
      rfl
theorem blockS_sec (x : Sec) : blockS x.l = x := Sec.eq (by
  unfold blockS
  simp only
  rw [List.take_append_of_le_length (by rw [x.h]; omega), List.take_of_length_le (by rw [x.h]; omega)])
/-! ### A node put, if it isn't empty -/
theorem empty_iff {p : P8} : emptyF p = true ↔ ∀ j, j < 8 → p.at_ j = hole0 := by
  unfold emptyF
  rw [List.all_eq_true]
  constructor
  · intro h j hj
    exact hole_iff.1 (h _ (p.at_mem j hj))
  · intro h q hq
    obtain ⟨j, hj, rfl⟩ := List.getElem_of_mem hq
    have hj8 : j < 8 := by rw [p.h] at hj; exact hj
    rw [← at_eq p j hj8, h j hj8]
    rfl
theorem zp8_at (j : Nat) (hj : j < 8) : zp8.at_ j = hole0 := empty_iff.1 zp8_s.2.2.1 j hj
theorem empty_zp8 {p : P8} (h : emptyF p = true) : p = zp8 := P8.ext fun j hj => by rw [empty_iff.1 h j hj, zp8_at j hj]
def putNP (P : Pw) (p : P8) : Pw := if emptyF p = true then P else putP P (nbS p).l
def putNQ (P : Pw) (p : P8) : PtrV := if emptyF p = true then hole0 else putQ P (nbS p).l
theorem putN_grew {P : Pw} (ok : OkW P) (p : P8) (hc : emptyF p = false → 0 < P.m.count) : Grew P (putNP P p) (putNQ P p) ∧ Held (putNP P p) (putNQ P p) (nbS p) ∧ (putNQ P p = hole0 ↔ emptyF p = true) := by
  unfold putNP putNQ
  cases he : emptyF p with
  | true =>
    simp only [if_true]
    refine ⟨.same ok, ?_, by simp⟩
    rw [empty_zp8 he, zp8_b]
    exact held_hole P
  | false =>
    simp only [Bool.false_eq_true, if_false]
    obtain ⟨_, h2, h3, h4⟩ := put_grew ok (l := (nbS p).l) (by rw [(nbS p).h]; omega) (hc he)
    rw [blockS_sec] at h3
    exact ⟨h2, h3, by simp [h4]⟩
/-! ### Sixty-four blocks under a pointer -/
structure Tree (P : Pw) (root : PtrV) (F : P8) (S : Nat → P8) (T : Nat → Sec) : Prop where
  fok : F.ok
  fall : all8 F = true
  top : Held P root (nbS F)
  sok : ∀ k, k < 8 → (S k).ok
  sall : ∀ k, k < 8 → all8 (S k) = true
  mid : ∀ k, k < 8 → Held P (F.at_ k) (nbS (S k))
  blk : ∀ i, i < 64 → Held P ((S (i / 8)).at_ (i % 8)) (T i)
theorem tree_zero (P : Pw) : Tree P hole0 zp8 (fun _ => zp8) (fun _ => zsec) :=
  ⟨zp8_ok, zp8_s.1, by rw [zp8_b]; exact held_hole P, fun _ _ => zp8_ok, fun _ _ => zp8_s.1, fun k hk => by rw [zp8_at k hk, zp8_b]; exact held_hole P, fun i _ => by rw [zp8_at _ (Nat.mod_lt _ (by omega))]; exact held_hole P⟩
section
variable {P P' : Pw} {root q : PtrV} {F : P8} {S : Nat → P8} {T : Nat → Sec} {x : Sec} {i : Nat}
theorem Tree.grew (t : Tree P root F S T) (g : Grew P P' q) : Tree P' root F S T :=
  ⟨t.fok, t.fall, g.held t.top, t.sok, t.sall, fun k hk => g.held (t.mid k hk), fun i hi => g.held (t.blk i hi)⟩
theorem nb_zero {p : P8} (hp : p.ok) (h : all8 p = true) (he : nbS p = zsec) : p = zp8 := by
  rw [← zp8_b] at he
  exact (nbS_inj hp zp8_ok h zp8_s.1).1 he
theorem Tree.none (t : Tree P root F S T) (h : root = hole0) : F = zp8 := nb_zero t.fok t.fall (by have := t.top; rw [h] at this; exact this.zero)
theorem Tree.noneK (t : Tree P root F S T) {k : Nat} (hk : k < 8) (h : F.at_ k = hole0) : S k = zp8 := nb_zero (t.sok k hk) (t.sall k hk) (by have := t.mid k hk; rw [h] at this; exact this.zero)
/-- The block's pointer; the nodes behind a change; the pile behind them. -/
def blkQ (S : Nat → P8) (i : Nat) : PtrV := (S (i / 8)).at_ (i % 8)
def newS (S : Nat → P8) (i : Nat) (q : PtrV) : P8 := (S (i / 8)).set (i % 8) q
def midP (P : Pw) (S : Nat → P8) (i : Nat) (q : PtrV) : Pw := putNP P (newS S i q)
def midQ (P : Pw) (S : Nat → P8) (i : Nat) (q : PtrV) : PtrV := putNQ P (newS S i q)
def newF (P : Pw) (F : P8) (S : Nat → P8) (i : Nat) (q : PtrV) : P8 := F.set (i / 8) (midQ P S i q)
def turnP (P : Pw) (F : P8) (S : Nat → P8) (i : Nat) (q : PtrV) : Pw := putNP (midP P S i q) (newF P F S i q)
def turnQ (P : Pw) (F : P8) (S : Nat → P8) (i : Nat) (q : PtrV) : PtrV := putNQ (midP P S i q) (newF P F S i q)
def setS (S : Nat → P8) (i : Nat) (q : PtrV) (k : Nat) : P8 := if k = i / 8 then newS S i q else S k
def setT (T : Nat → Sec) (i : Nat) (x : Sec) (j : Nat) : Sec := if j = i then x else T j
def oldL (F : P8) (S : Nat → P8) (root : PtrV) (i : Nat) : List PtrV := [blkQ S i, F.at_ (i / 8), root].filter fun q => !holeF q.1 q.2.1 q.2.2
/-- How many nodes are put. -/
def need (F : P8) (S : Nat → P8) (i : Nat) (q : PtrV) : Nat := if emptyF (newS S i q) = true then if emptyF (F.set (i / 8) hole0) = true then 0 else 1 else 2
structure Turned (P P' : Pw) (mid now : PtrV) : Prop where
  held : ∀ {r : PtrV} {x : Sec}, Held P r x → Held P' r x
  ok : OkW P'
  st : P'.st = P.st
  tot : P'.m.tot = P.m.tot
  N : P'.N ≤ P.N + 2
  tk : ∀ a, tk P' a = tk P a + cA a mid + cA a now
  cnt : P'.m.count + cN mid + cN now = P.m.count
  bornM : mid = hole0 ∨ mid.2.1 = (P.st : Int)
  bornN : now = hole0 ∨ now.2.1 = (P.st : Int)
theorem set_all {p : P8} (hp : p.ok) (ha : all8 p = true) {q : PtrV} (h : rightQ q = true ∧ PtrOk q) (j : Nat) : (p.set j q).ok ∧ all8 (p.set j q) = true :=
  ⟨set_ok hp h.2 j, all8_iff.2 fun k hk => by
    rw [P8.set_at _ _ _ _ hk]
    split
    · exact h.1
    · exact all8_at ha k hk⟩
theorem Tree.turn (ok : OkW P) (t : Tree P root F S T) (hq : Held P q x) (hi : i < 64) (hc : need F S i q ≤ P.m.count) :
    Turned P (turnP P F S i q) (midQ P S i q) (turnQ P F S i q) ∧ Tree (turnP P F S i q) (turnQ P F S i q) (newF P F S i q) (setS S i q) (setT T i x) ∧
      (midQ P S i q = hole0 ↔ emptyF (newS S i q) = true) ∧ (turnQ P F S i q = hole0 ↔ emptyF (newF P F S i q) = true) := by
  have hi8 : i / 8 < 8 := by omega
  have hm8 : i % 8 < 8 := by omega
  obtain ⟨s1, s2⟩ := set_all (t.sok _ hi8) (t.sall _ hi8) (hq.right ok) (i % 8)
  have hc1 : emptyF (newS S i q) = false → 2 ≤ P.m.count := fun h => by
    unfold need at hc
    rw [h] at hc
    simpa using hc
  obtain ⟨g1, h1, n1⟩ : Grew P (midP P S i q) (midQ P S i q) ∧ Held (midP P S i q) (midQ P S i q) (nbS (newS S i q)) ∧ (midQ P S i q = hole0 ↔ emptyF (newS S i q) = true) := putN_grew ok (newS S i q) fun h => by have := hc1 h; omega
  obtain ⟨f1, f2⟩ := set_all t.fok t.fall (h1.right g1.ok) (i / 8)
  have hc2 : emptyF (newF P F S i q) = false → 0 < (midP P S i q).m.count := fun h => by
    have hcnt : (midP P S i q).m.count + cN (midQ P S i q) = P.m.count := g1.cnt
    cases he : emptyF (newS S i q) with
    | false =>
      have := hc1 he
      have h1 : cN (midQ P S i q) ≤ 1 := by unfold cN; split <;> omega
      omega
    | true =>
      have hm : midQ P S i q = hole0 := n1.2 he
      rw [hm, cN_hole] at hcnt
      have hF : newF P F S i q = F.set (i / 8) hole0 := by unfold newF; rw [hm]
      rw [hF] at h
      unfold need at hc
      rw [he, h] at hc
      simp at hc
      omega
  obtain ⟨g2, h2, n2⟩ : Grew (midP P S i q) (turnP P F S i q) (turnQ P F S i q) ∧ Held (turnP P F S i q) (turnQ P F S i q) (nbS (newF P F S i q)) ∧ (turnQ P F S i q = hole0 ↔ emptyF (newF P F S i q) = true) := putN_grew g1.ok (newF P F S i q) hc2
  refine ⟨⟨fun h => g2.held (g1.held h), g2.ok, g2.st.trans g1.st, g2.tot.trans g1.tot, ?_, fun a => ?_, ?_, g1.born, ?_⟩, ⟨f1, f2, h2, fun k hk => ?_, fun k hk => ?_, fun k hk => ?_, fun j hj => ?_⟩, n1, n2⟩
  · have a1 := g1.N
    have a2 := g2.N
    omega
  · rw [g2.tk, g1.tk]
  · have a1 := g1.cnt
    have a2 := g2.cnt
    omega
  · rcases g2.born with h | h
    · exact .inl h
    · exact .inr (h.trans (by rw [g1.st]))
  · unfold setS
    split
    · exact s1
    · exact t.sok k hk
  · unfold setS
    split
    · exact s2
    · exact t.sall k hk
  · have e : (newF P F S i q).at_ k = if i / 8 = k then midQ P S i q else F.at_ k := P8.set_at _ _ _ _ hk
    rw [e]
    unfold setS
    by_cases hkk : k = i / 8
    · rw [if_pos hkk, if_pos hkk.symm]
      exact g2.held h1
    · rw [if_neg hkk, if_neg fun h => hkk h.symm]
      exact g2.held (g1.held (t.mid k hk))
  · have hj8 : j % 8 < 8 := by omega
    have e : (setS S i q (j / 8)).at_ (j % 8) = if j = i then q else (S (j / 8)).at_ (j % 8) := by
      unfold setS
      by_cases hkk : j / 8 = i / 8
      · rw [if_pos hkk]
        unfold newS
        rw [P8.set_at _ _ _ _ hj8]
        by_cases hjj : i % 8 = j % 8
        · rw [if_pos hjj, if_pos (by omega)]
        · rw [if_neg hjj, if_neg (by omega), hkk]
      · rw [if_neg hkk, if_neg (by omega)]
    rw [e]
    unfold setT
    by_cases hji : j = i
    · rw [if_pos hji, if_pos hji]
      exact g2.held (g1.held hq)
    · rw [if_neg hji, if_neg hji]
      exact g2.held (g1.held (t.blk j hj))
end
end
section
open Go.RowKit

/-! ### Counted -/
def sum8 (f : Nat → Nat) : Nat := f 0 + f 1 + f 2 + f 3 + f 4 + f 5 + f 6 + f 7
theorem sum8_turn {f g : Nat → Nat} : ∀ {k : Nat}, k < 8 → (∀ j, j < 8 → j ≠ k → g j = f j) → sum8 g + f k = sum8 f + g k
  | 0, _, h => by have := h 1 (by omega) (by omega); have := h 2 (by omega) (by omega); have := h 3 (by omega) (by omega); have := h 4 (by omega) (by omega); have := h 5 (by omega) (by omega); have := h 6 (by omega) (by omega); have := h 7 (by omega) (by omega); unfold sum8; omega
  | 1, _, h => by have := h 0 (by omega) (by omega); have := h 2 (by omega) (by omega); have := h 3 (by omega) (by omega); have := h 4 (by omega) (by omega); have := h 5 (by omega) (by omega); have := h 6 (by omega) (by omega); have := h 7 (by omega) (by omega); unfold sum8; omega
  | 2, _, h => by have := h 0 (by omega) (by omega); have := h 1 (by omega) (by omega); have := h 3 (by omega) (by omega); have := h 4 (by omega) (by omega); have := h 5 (by omega) (by omega); have := h 6 (by omega) (by omega); have := h 7 (by omega) (by omega); unfold sum8; omega
  | 3, _, h => by have := h 0 (by omega) (by omega); have := h 1 (by omega) (by omega); have := h 2 (by omega) (by omega); have := h 4 (by omega) (by omega); have := h 5 (by omega) (by omega); have := h 6 (by omega) (by omega); have := h 7 (by omega) (by omega); unfold sum8; omega
  | 4, _, h => by have := h 0 (by omega) (by omega); have := h 1 (by omega) (by omega); have := h 2 (by omega) (by omega); have := h 3 (by omega) (by omega); have := h 5 (by omega) (by omega); have := h 6 (by omega) (by omega); have := h 7 (by omega) (by omega); unfold sum8; omega
  | 5, _, h => by have := h 0 (by omega) (by omega); have := h 1 (by omega) (by omega); have := h 2 (by omega) (by omega); have := h 3 (by omega) (by omega); have := h 4 (by omega) (by omega); have := h 6 (by omega) (by omega); have := h 7 (by omega) (by omega); unfold sum8; omega
  | 6, _, h => by have := h 0 (by omega) (by omega); have := h 1 (by omega) (by omega); have := h 2 (by omega) (by omega); have := h 3 (by omega) (by omega); have := h 4 (by omega) (by omega); have := h 5 (by omega) (by omega); have := h 7 (by omega) (by omega); unfold sum8; omega
  | 7, _, h => by have := h 0 (by omega) (by omega); have := h 1 (by omega) (by omega); have := h 2 (by omega) (by omega); have := h 3 (by omega) (by omega); have := h 4 (by omega) (by omega); have := h 5 (by omega) (by omega); have := h 6 (by omega) (by omega); unfold sum8; omega
  | k + 8, hk, _ => by omega
theorem sum8_congr {f g : Nat → Nat} (h : ∀ j, j < 8 → f j = g j) : sum8 f = sum8 g := by
  unfold sum8
  rw [h 0 (by omega), h 1 (by omega), h 2 (by omega), h 3 (by omega), h 4 (by omega), h 5 (by omega), h 6 (by omega), h 7 (by omega)]
theorem sum8_zero {f : Nat → Nat} (h : ∀ j, j < 8 → f j = 0) : sum8 f = 0 := by
  rw [sum8_congr (g := fun _ => 0) h]
  rfl
def cntP (c : PtrV → Nat) (p : P8) : Nat := sum8 fun j => c (p.at_ j)
def cntT (c : PtrV → Nat) (root : PtrV) (F : P8) (S : Nat → P8) : Nat := c root + cntP c F + sum8 fun k => cntP c (S k)
def sumL (c : PtrV → Nat) : List PtrV → Nat
  | [] => 0
  | q :: r => c q + sumL c r
theorem sumL_app (c : PtrV → Nat) : ∀ a b, sumL c (a ++ b) = sumL c a + sumL c b
  | [], b => by simp [sumL]
  | q :: r, b => by
    show c q + sumL c (r ++ b) = c q + sumL c r + sumL c b
    rw [sumL_app c r b]
    omega
theorem cntP_set (c : PtrV → Nat) (p : P8) {j : Nat} (hj : j < 8) (q : PtrV) : cntP c (p.set j q) + c (p.at_ j) = cntP c p + c q := by
  have h : (sum8 fun k => c ((p.set j q).at_ k)) + c (p.at_ j) = (sum8 fun k => c (p.at_ k)) + c ((p.set j q).at_ j) := sum8_turn (f := fun j => c (p.at_ j)) (g := fun k => c ((p.set j q).at_ k)) hj fun k hk hne => by
    show c _ = c _
    rw [P8.set_at _ _ _ _ hk, if_neg (Ne.symm hne)]
  rw [P8.set_at _ _ _ _ hj, if_pos rfl] at h
  exact h
theorem cntP_zero {c : PtrV → Nat} (hc : c hole0 = 0) : cntP c zp8 = 0 := sum8_zero fun j hj => by rw [zp8_at j hj, hc]
theorem filter_sum {c : PtrV → Nat} (hc : c hole0 = 0) : ∀ l : List PtrV, sumL c (l.filter fun q => !holeF q.1 q.2.1 q.2.2) = sumL c l
  | [] => rfl
  | q :: r => by
    rw [List.filter_cons]
    cases h : holeF q.1 q.2.1 q.2.2 with
    | true =>
      have e := hole_iff.1 h
      subst e
      show sumL c (List.filter _ r) = c hole0 + sumL c r
      rw [filter_sum hc r, hc, Nat.zero_add]
    | false =>
      show c q + sumL c (List.filter _ r) = c q + sumL c r
      rw [filter_sum hc r]
section
variable {P P1 : Pw} {root q : PtrV} {F : P8} {S : Nat → P8} {T : Nat → Sec} {x : Sec} {i : Nat}
theorem old_sum {c : PtrV → Nat} (hc : c hole0 = 0) : sumL c (oldL F S root i) = c (blkQ S i) + c (F.at_ (i / 8)) + c root := by
  unfold oldL
  rw [filter_sum hc]
  simp only [sumL]
  omega
theorem cntT_turn (c : PtrV → Nat) (hi : i < 64) : cntT c (turnQ P F S i q) (newF P F S i q) (setS S i q) + (c (blkQ S i) + c (F.at_ (i / 8)) + c root) = cntT c root F S + c q + c (midQ P S i q) + c (turnQ P F S i q) := by
  have hi8 : i / 8 < 8 := by omega
  have hm8 : i % 8 < 8 := by omega
  have h1 := cntP_set c F hi8 (midQ P S i q)
  have h2 := sum8_turn (f := fun k => cntP c (S k)) (g := fun k => cntP c (setS S i q k)) hi8 fun k _ hne => by
    show cntP c _ = cntP c _
    unfold setS
    rw [if_neg hne]
  have h3 := cntP_set c (S (i / 8)) hm8 q
  have h4 : setS S i q (i / 8) = (S (i / 8)).set (i % 8) q := if_pos rfl
  simp only [h4] at h2
  unfold cntT blkQ newF
  omega
theorem setS_blk (j : Nat) : blkQ (setS S i q) j = if j = i then q else blkQ S j := by
  have hj8 : j % 8 < 8 := by omega
  unfold blkQ setS
  by_cases hkk : j / 8 = i / 8
  · rw [if_pos hkk]
    unfold newS
    rw [P8.set_at _ _ _ _ hj8]
    by_cases hjj : i % 8 = j % 8
    · rw [if_pos hjj, if_pos (by omega)]
    · rw [if_neg hjj, if_neg (by omega), hkk]
  · rw [if_neg hkk, if_neg (by omega)]

/-! ### What is told -/
def sinceQ (t : Int) (q : PtrV) : Bool := sinceF q.1 q.2.1 q.2.2 t
def allK (t : Int) (F : P8) (S : Nat → P8) (k : Nat) : List PtrV := if sinceQ t (F.at_ k) = true then F.at_ k :: (S k).l.filter (sinceQ t) else []
def allL (t : Int) (root : PtrV) (F : P8) (S : Nat → P8) : List PtrV := if sinceQ t root = true then root :: (List.range 8).flatMap (allK t F S) else []
def blkL (S : Nat → P8) : List Nat := (List.range 64).filter fun i => !holeF (blkQ S i).1 (blkQ S i).2.1 (blkQ S i).2.2
theorem since_iff {t : Int} {q : PtrV} : sinceQ t q = true ↔ q ≠ hole0 ∧ t < q.2.1 := by
  unfold sinceQ sinceF
  rw [Bool.and_eq_true, decide_eq_true_iff, Bool.not_eq_true', ← Bool.not_eq_true, hole_iff]
theorem since_not {t : Int} {q : PtrV} (h : q.2.1 ≤ t) : sinceQ t q = false := by
  rw [Bool.eq_false_iff]
  intro h2
  have := (since_iff.1 h2).2
  omega
/-- A pile and a tree of it: what was replaced and what it has are just what is taken; births fall on the way down. -/
structure Good (n : Nat) (P : Pw) (root : PtrV) (F : P8) (S : Nat → P8) (T : Nat → Sec) (old : List PtrV) : Prop where
  ok : OkW P
  tree : Tree P root F S T
  acc : ∀ a, cntT (cA a) root F S + sumL (cA a) old = tk P a
  num : cntT cN root F S + sumL cN old + P.m.count = n
  nonE : root = hole0 ↔ emptyF F = true
  nonK : ∀ k, k < 8 → (F.at_ k = hole0 ↔ emptyF (S k) = true)
  mono0 : root.2.1 ≤ (P.st : Int)
  monoF : ∀ k, k < 8 → (F.at_ k).2.1 ≤ root.2.1
  monoS : ∀ k, k < 8 → ∀ j, j < 8 → ((S k).at_ j).2.1 ≤ (F.at_ k).2.1
  olds : ∀ r ∈ old, r ≠ hole0 ∧ 0 ≤ r.1
theorem old_mem {r : PtrV} (t : Tree P root F S T) (hi : i < 64) (h : r ∈ oldL F S root i) : r ≠ hole0 ∧ 0 ≤ r.1 := by
  obtain ⟨h1, h2⟩ := List.mem_filter.1 h
  have hne : r ≠ hole0 := fun e => by
    subst e
    exact absurd h2 (by decide)
  have key : ∀ x, Held P r x → 0 ≤ r.1 := fun x hx => by
    obtain ⟨a, ha, _⟩ := hx.at_ hne
    omega
  refine ⟨hne, ?_⟩
  simp only [List.mem_cons, List.not_mem_nil, or_false] at h1
  rcases h1 with rfl | rfl | rfl
  · exact key _ (t.blk i hi)
  · exact key _ (t.mid _ (by omega))
  · exact key _ t.top
theorem empty_set {p : P8} {j : Nat} (hj : j < 8) (h : emptyF (p.set j q) = true) : q = hole0 := by
  have := empty_iff.1 h j hj
  rw [P8.set_at _ _ _ _ hj, if_pos rfl] at this
  exact this
variable {n : Nat} {old : List PtrV}
theorem Good.turn (h : Good n P root F S T old) (g : Grew P P1 q) (hq : Held P1 q x) (hi : i < 64) (hc : need F S i q ≤ P1.m.count) :
    Good n (turnP P1 F S i q) (turnQ P1 F S i q) (newF P1 F S i q) (setS S i q) (setT T i x) (old ++ oldL F S root i) ∧ (turnP P1 F S i q).st = P.st ∧ (turnP P1 F S i q).m.tot = P.m.tot ∧ (turnP P1 F S i q).N ≤ P1.N + 2 ∧
      Turned P1 (turnP P1 F S i q) (midQ P1 S i q) (turnQ P1 F S i q) := by
  have hi8 : i / 8 < 8 := by omega
  have hm8 : i % 8 < 8 := by omega
  obtain ⟨t, t2, t3, t4⟩ := (h.tree.grew g).turn g.ok hq hi hc
  have hat : ∀ k, k < 8 → (newF P1 F S i q).at_ k = if i / 8 = k then midQ P1 S i q else F.at_ k := fun k hk => P8.set_at _ _ _ _ hk
  have hsat : ∀ j, j < 8 → (newS S i q).at_ j = if i % 8 = j then q else (S (i / 8)).at_ j := fun j hj => P8.set_at _ _ _ _ hj
  have hst : (P1.st : Int) = P.st := by rw [g.st]
  have hqb : q.2.1 ≤ (P.st : Int) := by
    rcases g.born with e | e
    · rw [e]; exact Int.natCast_nonneg _
    · omega
  have hmb : (midQ P1 S i q).2.1 ≤ (P.st : Int) := by
    rcases t.bornM with e | e
    · rw [e]; exact Int.natCast_nonneg _
    · omega
  have hnb : (turnQ P1 F S i q).2.1 ≤ (P.st : Int) := by
    rcases t.bornN with e | e
    · rw [e]; exact Int.natCast_nonneg _
    · omega
  refine ⟨⟨t.ok, t2, fun a => ?_, ?_, t4, fun k hk => ?_, by rw [t.st, g.st]; exact hnb, fun k hk => ?_, fun k hk j hj => ?_, fun r hr => ?_⟩, t.st.trans g.st, t.tot.trans g.tot, t.N, t⟩
  · have h1 := h.acc a
    have h2 := cntT_turn (P := P1) (root := root) (F := F) (S := S) (q := q) (cA a) hi
    have h3 := t.tk a
    have h4 := g.tk a
    rw [sumL_app, old_sum (cA_hole a)]
    omega
  · have h1 := h.num
    have h2 := cntT_turn (P := P1) (root := root) (F := F) (S := S) (q := q) cN hi
    have h3 := t.cnt
    have h4 := g.cnt
    rw [sumL_app, old_sum cN_hole]
    omega
  · rw [hat k hk]
    unfold setS
    by_cases hkk : k = i / 8
    · rw [if_pos hkk.symm, if_pos hkk]
      exact t3
    · rw [if_neg fun e => hkk e.symm, if_neg hkk]
      exact h.nonK k hk
  · by_cases hn : turnQ P1 F S i q = hole0
    · have he := empty_iff.1 (t4.1 hn) k hk
      rw [he, hn]
      exact Int.le_refl _
    · have hb : (turnQ P1 F S i q).2.1 = (P.st : Int) := by
        rcases t.bornN with e | e
        · exact absurd e hn
        · omega
      rw [hb, hat k hk]
      split
      · exact hmb
      · exact Int.le_trans (h.monoF k hk) h.mono0
  · rw [hat k hk]
    unfold setS
    by_cases hkk : k = i / 8
    · rw [if_pos hkk.symm, if_pos hkk]
      by_cases hn : midQ P1 S i q = hole0
      · have he := empty_iff.1 (t3.1 hn) j hj
        rw [he, hn]
        exact Int.le_refl _
      · have hb : (midQ P1 S i q).2.1 = (P.st : Int) := by
          rcases t.bornM with e | e
          · exact absurd e hn
          · omega
        rw [hb, hsat j hj]
        split
        · exact hqb
        · exact Int.le_trans (h.monoS _ hi8 j hj) (Int.le_trans (h.monoF _ hi8) h.mono0)
    · rw [if_neg hkk, if_neg (show ¬ i / 8 = k from fun e => hkk e.symm)]
      exact h.monoS k hk j hj
  · rcases List.mem_append.1 hr with hr | hr
    · exact h.olds r hr
    · exact old_mem h.tree hi hr
/-- The pile at its next stamp. -/
def nextW (P : Pw) : Pw := ⟨P.nw, P.m, P.st + 1, P.ba, P.N⟩
theorem Good.next (h : Good n P root F S T old) (hs : P.st + 1 ≤ 281474976710655) : Good n (nextW P) root F S T old :=
  ⟨⟨h.ok.nwl, h.ok.tot, Nat.le_succ_of_le h.ok.st1, hs⟩, ⟨h.tree.fok, h.tree.fall, h.tree.top, h.tree.sok, h.tree.sall, h.tree.mid, h.tree.blk⟩, h.acc, h.num, h.nonE, h.nonK, Int.le_trans h.mono0 (by show (P.st : Int) ≤ ((P.st + 1 : Nat) : Int); omega), h.monoF, h.monoS, h.olds⟩
theorem good_zero (m : Nat) (h4 : 4 ≤ m) (hm : m ≤ 1024) : Good (m - 4) (newPw (m : Int)) hole0 zp8 (fun _ => zp8) (fun _ => zsec) [] := by
  have ht : (newPw (m : Int)).m.tot = m := by show (min (max (m : Int) 0) 1024).toNat = m; omega
  have hl : (newPw (m : Int)).nw.length = m := by show (List.replicate (min (max (m : Int) 0) 1024).toNat zsec).length = m; rw [List.length_replicate]; omega
  have hz : ∀ c : PtrV → Nat, c hole0 = 0 → cntT c hole0 zp8 (fun _ => zp8) = 0 := fun c hc => by
    unfold cntT
    rw [hc, cntP_zero hc, sum8_zero fun k _ => cntP_zero hc]
  refine ⟨⟨by rw [ht, hl]; exact Nat.le_refl _, by rw [ht]; exact hm, Nat.le_refl _, by show (1 : Nat) ≤ 281474976710655; omega⟩, tree_zero _, fun a => ?_, ?_, ⟨fun _ => zp8_s.2.2.1, fun _ => rfl⟩, fun k hk => ⟨fun _ => zp8_s.2.2.1, fun _ => zp8_at k hk⟩, by show (0 : Int) ≤ _; exact Int.natCast_nonneg _, fun k hk => by rw [zp8_at k hk]; exact Int.le_refl _, fun k hk j hj => by rw [zp8_at k hk, zp8_at j hj]; exact Int.le_refl _, fun r hr => by cases hr⟩
  · rw [hz _ (cA_hole a)]
    unfold tk
    rw [if_neg]
    · rfl
    · show ¬ (newMp (m : Int)).is 1 a = true
      intro h
      have := (Mp.is_iff.1 h).2.2
      exact absurd this (by show ¬ (0 : Nat) = 1; omega)
  · rw [hz _ cN_hole]
    have := count_new (m : Int)
    show 0 + 0 + (newMp (m : Int)).count = m - 4
    have e : (newMp (m : Int)).tot = m := ht
    omega
end
end
section
open Go.RowKit

theorem flat_congr {f g : Nat → List PtrV} : ∀ {l : List Nat}, (∀ k ∈ l, f k = g k) → l.flatMap f = l.flatMap g
  | [], _ => rfl
  | k :: r, h => by rw [List.flatMap_cons, List.flatMap_cons, h k List.mem_cons_self, flat_congr fun j hj => h j (List.mem_cons_of_mem _ hj)]
theorem p8_list (p : P8) : p.l = (List.range 8).map p.at_ := List.ext_getElem (by rw [p.h, List.length_map, List.length_range]) fun j h1 h2 => by
  rw [List.getElem_map, List.getElem_range, at_eq p j (by rw [p.h] at h1; exact h1)]
theorem p8_sum (c : PtrV → Nat) (p : P8) : sumL c p.l = cntP c p := by
  rw [p8_list]
  show c (p.at_ 0) + (c (p.at_ 1) + (c (p.at_ 2) + (c (p.at_ 3) + (c (p.at_ 4) + (c (p.at_ 5) + (c (p.at_ 6) + (c (p.at_ 7) + 0))))))) = _
  unfold cntP sum8
  simp only []
  omega
theorem flat_sum (c : PtrV → Nat) (f : Nat → List PtrV) : sumL c ((List.range 8).flatMap f) = sum8 fun k => sumL c (f k) := by
  have e : (List.range 8).flatMap f = f 0 ++ (f 1 ++ (f 2 ++ (f 3 ++ (f 4 ++ (f 5 ++ (f 6 ++ (f 7 ++ []))))))) := rfl
  rw [e]
  simp only [sumL_app, sumL]
  unfold sum8
  simp only []
  omega
section
variable {n : Nat} {P : Pw} {root : PtrV} {F : P8} {S : Nat → P8} {T : Nat → Sec} {old : List PtrV}
/-! ### Behind a stamp -/
theorem since_le {a b : Int} {q : PtrV} (hab : a ≤ b) (h : sinceQ b q = true) : sinceQ a q = true := by
  obtain ⟨h1, h2⟩ := since_iff.1 h
  exact since_iff.2 ⟨h1, by omega⟩
theorem allK_le (h : Good n P root F S T old) {a : Int} {k : Nat} (hk : k < 8) {r : PtrV} (hr : r ∈ allK a F S k) : r.2.1 ≤ (F.at_ k).2.1 := by
  unfold allK at hr
  split at hr
  · rcases List.mem_cons.1 hr with rfl | hr
    · exact Int.le_refl _
    · obtain ⟨j, hj, rfl⟩ := List.getElem_of_mem (List.mem_filter.1 hr).1
      have hj8 : j < 8 := by rw [(S k).h] at hj; exact hj
      rw [← at_eq (S k) j hj8]
      exact h.monoS k hk j hj8
  · cases hr
theorem all_le (h : Good n P root F S T old) {a : Int} {r : PtrV} (hr : r ∈ allL a root F S) : r.2.1 ≤ root.2.1 := by
  unfold allL at hr
  split at hr
  · rcases List.mem_cons.1 hr with rfl | hr
    · exact Int.le_refl _
    · obtain ⟨k, hk, hr⟩ := List.mem_flatMap.1 hr
      have hk8 := List.mem_range.1 hk
      exact Int.le_trans (allK_le h hk8 hr) (h.monoF k hk8)
  · cases hr
theorem allK_sub (h : Good n P root F S T old) {a b : Int} (hab : a ≤ b) {k : Nat} (hk : k < 8) : allK b F S k = (allK a F S k).filter fun q => decide (b < q.2.1) := by
  cases hb : sinceQ b (F.at_ k) with
  | true =>
    have ha := since_le hab hb
    unfold allK
    rw [if_pos hb, if_pos ha, List.filter_cons, if_pos (by rw [decide_eq_true_iff]; exact (since_iff.1 hb).2), List.filter_filter]
    refine congrArg _ (List.filter_congr fun q _ => ?_)
    rw [Bool.eq_iff_iff, Bool.and_eq_true, decide_eq_true_iff, since_iff, since_iff]
    exact ⟨fun h => ⟨h.2, h.1, by omega⟩, fun h => ⟨h.2.1, h.1⟩⟩
  | false =>
    have e : allK b F S k = [] := if_neg (by rw [hb]; simp)
    rw [e]
    refine (List.filter_eq_nil_iff.2 fun r hr hd => ?_).symm
    have h1 := allK_le h hk hr
    have h2 : b < r.2.1 := of_decide_eq_true hd
    have hne : F.at_ k ≠ hole0 := fun e => by
      unfold allK at hr
      split at hr
      · next hs => exact (since_iff.1 hs).1 e
      · cases hr
    rw [since_iff.2 ⟨hne, by omega⟩] at hb
    cases hb
/-- What was born behind a stamp, out of what was born behind an elder one. -/
theorem all_sub (h : Good n P root F S T old) {a b : Int} (hab : a ≤ b) : allL b root F S = (allL a root F S).filter fun q => decide (b < q.2.1) := by
  cases hb : sinceQ b root with
  | true =>
    have ha := since_le hab hb
    unfold allL
    rw [if_pos hb, if_pos ha, List.filter_cons, if_pos (by rw [decide_eq_true_iff]; exact (since_iff.1 hb).2), List.filter_flatMap]
    exact congrArg _ (flat_congr fun k hk => allK_sub h hab (List.mem_range.1 hk))
  | false =>
    have e : allL b root F S = [] := if_neg (by rw [hb]; simp)
    rw [e]
    refine (List.filter_eq_nil_iff.2 fun r hr hd => ?_).symm
    have h1 := all_le h hr
    have h2 : b < r.2.1 := of_decide_eq_true hd
    have hne : root ≠ hole0 := fun e => by
      unfold allL at hr
      split at hr
      · next hs => exact (since_iff.1 hs).1 e
      · cases hr
    rw [since_iff.2 ⟨hne, by omega⟩] at hb
    cases hb
theorem all_none (h : Good n P root F S T old) : allL (P.st : Int) root F S = [] := if_neg (by rw [since_not h.mono0]; simp)
theorem all_mem {a : Int} {r : PtrV} (hr : r ∈ allL a root F S) : sinceQ a r = true := by
  unfold allL at hr
  split at hr
  · next hs =>
    rcases List.mem_cons.1 hr with rfl | hr
    · exact hs
    · obtain ⟨k, hk, hr⟩ := List.mem_flatMap.1 hr
      unfold allK at hr
      split at hr
      · next hs =>
        rcases List.mem_cons.1 hr with rfl | hr
        · exact hs
        · exact (List.mem_filter.1 hr).2
      · cases hr
  · cases hr
theorem all_len (a : Int) : (allL a root F S).length ≤ 73 := by
  have hK : ∀ k, (allK a F S k).length ≤ 9 := fun k => by
    unfold allK
    split
    · have := List.length_filter_le (sinceQ a) (S k).l
      rw [(S k).h] at this
      simp only [List.length_cons]
      omega
    · simp
  unfold allL
  split
  · have e : (List.range 8).flatMap (allK a F S) = allK a F S 0 ++ (allK a F S 1 ++ (allK a F S 2 ++ (allK a F S 3 ++ (allK a F S 4 ++ (allK a F S 5 ++ (allK a F S 6 ++ (allK a F S 7 ++ []))))))) := rfl
    rw [e]
    have h0 := hK 0
    have h1 := hK 1
    have h2 := hK 2
    have h3 := hK 3
    have h4 := hK 4
    have h5 := hK 5
    have h6 := hK 6
    have h7 := hK 7
    simp only [List.length_cons, List.length_append, List.length_nil]
    omega
  · simp
/-- All that is reached, counted. -/
theorem all_sum (h : Good n P root F S T old) {c : PtrV → Nat} (hc : c hole0 = 0) : sumL c (allL 0 root F S) = cntT c root F S := by
  have key : ∀ {q : PtrV} {x : Sec}, Held P q x → q ≠ hole0 → sinceQ 0 q = true := fun hq hne => by
    obtain ⟨_, _, _, _, _, hb, _⟩ := hq.at_ hne
    exact since_iff.2 ⟨hne, by omega⟩
  have hK : ∀ k, k < 8 → sumL c (allK 0 F S k) = c (F.at_ k) + cntP c (S k) := fun k hk => by
    by_cases hn : F.at_ k = hole0
    · have e : allK 0 F S k = [] := if_neg fun hs => (since_iff.1 hs).1 hn
      rw [e, hn, h.tree.noneK hk hn, hc, cntP_zero hc]
      rfl
    · unfold allK
      rw [if_pos (key (h.tree.mid k hk) hn)]
      show c _ + sumL c _ = _
      have e : (S k).l.filter (sinceQ 0) = (S k).l.filter fun q => !holeF q.1 q.2.1 q.2.2 := List.filter_congr fun r hr => by
        obtain ⟨j, hj, rfl⟩ := List.getElem_of_mem hr
        have hj8 : j < 8 := by rw [(S k).h] at hj; exact hj
        rw [← at_eq (S k) j hj8]
        have hb := h.tree.blk (8 * k + j) (by omega)
        rw [show (8 * k + j) / 8 = k by omega, show (8 * k + j) % 8 = j by omega] at hb
        rw [Bool.eq_iff_iff, Bool.not_eq_true', ← Bool.not_eq_true, hole_iff]
        exact ⟨fun h => (since_iff.1 h).1, fun h => key hb h⟩
      rw [e, filter_sum hc, p8_sum]
  by_cases hn : root = hole0
  · have e : allL 0 root F S = [] := if_neg fun hs => (since_iff.1 hs).1 hn
    have hF := h.tree.none hn
    rw [e]
    unfold cntT
    rw [hn, hc, hF, cntP_zero hc, sum8_zero fun k hk => by rw [h.tree.noneK hk (by rw [hF, zp8_at k hk]), cntP_zero hc]]
    rfl
  · unfold allL
    rw [if_pos (key h.tree.top hn)]
    show c root + sumL c _ = _
    rw [flat_sum, sum8_congr hK]
    unfold cntT
    rw [show cntP c F = sum8 fun k => c (F.at_ k) from rfl]
    unfold sum8
    simp only []
    omega

/-! ### Nothing is twice -/
def inS (L : List PtrV) (a : Int) : Bool := decide (0 ≤ a) && decide (0 < sumL (cA a.toNat) L)
theorem inS_zero : inS [] = fun _ => false := funext fun a => by simp [inS, sumL]
theorem inS_nat (L : List PtrV) (a : Nat) : inS L (a : Int) = decide (0 < sumL (cA a) L) := by simp [inS]
theorem told_step {L : List PtrV} (hL : ∀ a, sumL (cA a) L ≤ tk P a) {k : Nat} (hk : k < L.length) (hq : L[k] ≠ hole0 ∧ 0 ≤ L[k].1) :
    ∃ a : Nat, L[k].1 = (a : Int) ∧ 4 ≤ a ∧ a < P.m.tot ∧ inS (L.take k) a = false ∧ ∀ m : Int, inS (L.take (k + 1)) m = (inS (L.take k) m || decide (m = a)) := by
  obtain ⟨a, ha⟩ := Int.eq_ofNat_of_zero_le hq.2
  have hone : cA a L[k] = 1 := if_pos ⟨hq.1, ha⟩
  have hd : L = L.take k ++ (L[k] :: L.drop (k + 1)) := by rw [← List.drop_eq_getElem_cons hk, List.take_append_drop]
  have hs := hL a
  rw [hd, sumL_app] at hs
  have hs : sumL (cA a) (L.take k) + (cA a L[k] + sumL (cA a) (L.drop (k + 1))) ≤ tk P a := hs
  have htk : tk P a ≤ 1 := by unfold tk; split <;> omega
  have hin : P.m.is 1 a = true := by
    cases hx : P.m.is 1 a with
    | true => rfl
    | false =>
      have : tk P a = 0 := if_neg (by rw [hx]; simp)
      omega
  obtain ⟨h4, ht, _⟩ := Mp.is_iff.1 hin
  refine ⟨a, ha, h4, ht, by rw [inS_nat]; exact decide_eq_false (by omega), fun m => ?_⟩
  rw [List.take_succ_eq_append_getElem hk]
  unfold inS
  rw [sumL_app]
  show (decide (0 ≤ m) && decide (0 < sumL (cA m.toNat) (L.take k) + (cA m.toNat L[k] + 0))) = _
  by_cases hm : m = a
  · subst hm
    rw [Int.toNat_natCast, hone, decide_eq_true (show 0 < sumL (cA a) (L.take k) + (1 + 0) by omega), decide_eq_true (show (0 : Int) ≤ (a : Int) by omega), decide_eq_true (rfl : (a : Int) = a), Bool.or_true]
    rfl
  · rw [decide_eq_false hm, Bool.or_false]
    by_cases h0 : 0 ≤ m
    · have e : cA m.toNat L[k] = 0 := if_neg fun h => hm (by have := h.2; omega)
      rw [e, Nat.add_zero]
    · rw [decide_eq_false h0]
      rfl
theorem told_all {L : List PtrV} (hL : ∀ a, sumL (cA a) L = tk P a) : inS L = stS P.m 1 := funext fun m => by
  rw [Bool.eq_iff_iff, stS_iff]
  unfold inS
  rw [Bool.and_eq_true, decide_eq_true_iff, decide_eq_true_iff, hL]
  refine and_congr_right fun h0 => ?_
  unfold tk
  split
  · next h => exact ⟨fun _ => h, fun _ => by omega⟩
  · next h => exact ⟨fun h => by omega, fun h2 => absurd h2 h⟩

/-! ### Blocks -/
theorem blk_lt {i : Nat} (h : i ∈ blkL S) : i < 64 ∧ blkQ S i ≠ hole0 := by
  obtain ⟨h1, h2⟩ := List.mem_filter.1 h
  refine ⟨List.mem_range.1 h1, fun e => ?_⟩
  rw [e] at h2
  exact absurd h2 (by decide)
theorem blk_in {i : Nat} (hi : i < 64) (h : blkQ S i ≠ hole0) : i ∈ blkL S := List.mem_filter.2 ⟨List.mem_range.2 hi, by
  rw [Bool.not_eq_true', ← Bool.not_eq_true, hole_iff]
  exact h⟩
theorem blk_len : (blkL S).length ≤ 64 := by
  have := List.length_filter_le (fun i => !holeF (blkQ S i).1 (blkQ S i).2.1 (blkQ S i).2.2) (List.range 64)
  rw [List.length_range] at this
  exact this
/-- All trimmed. -/
theorem all_trimmed (h : Good n P root F S T old) (hn : ∀ i, i < 64 → blkQ S i = hole0) : root = hole0 ∧ cntT cN root F S = 0 ∧ blkL S = [] := by
  have hS : ∀ k, k < 8 → emptyF (S k) = true := fun k hk => empty_iff.2 fun j hj => by
    have := hn (8 * k + j) (by omega)
    unfold blkQ at this
    rwa [show (8 * k + j) / 8 = k by omega, show (8 * k + j) % 8 = j by omega] at this
  have hF : emptyF F = true := empty_iff.2 fun k hk => (h.nonK k hk).2 (hS k hk)
  have hr := h.nonE.2 hF
  refine ⟨hr, ?_, List.filter_eq_nil_iff.2 fun i hi => by rw [hn i (List.mem_range.1 hi)]; decide⟩
  unfold cntT
  rw [hr, cN_hole, empty_zp8 hF, cntP_zero cN_hole, sum8_zero fun k hk => by rw [empty_zp8 (hS k hk), cntP_zero cN_hole]]
theorem sum_ones : ∀ {l : List PtrV}, (∀ r ∈ l, r ≠ hole0) → sumL cN l = l.length
  | [], _ => rfl
  | q :: r, h => by
    show cN q + sumL cN r = _
    rw [sum_ones fun r hr => h r (List.mem_cons_of_mem _ hr)]
    unfold cN
    rw [if_pos (h q List.mem_cons_self), List.length_cons]
    omega
end
end
section
open Go.ChangeShapes Go.WideShapes Go.ChangeAt Go.RowKit Go.Deep

/-- An act of the laws. -/
structure TAct where
  k : Int
  n : Int
  l : List UInt8
  a : Option Addr
  c : Nat
  hk : I64 k
  hn : I64 n
def TAct.cs (a : TAct) : List Value := [.int .i64 a.k, .int .i64 a.n, .slice a.a a.l.length a.c]
theorem TAct.cs_len (a : TAct) : a.cs.length = 3 := rfl
theorem TAct.one (a : TAct) : ∀ v ∈ a.cs, v.oneCell' = true := by
  intro v hv
  simp only [TAct.cs, List.mem_cons, List.not_mem_nil, or_false] at hv
  rcases hv with rfl | rfl | rfl <;> rfl
def flatT (l : List TAct) : List Value := l.flatMap TAct.cs
theorem flatT_len : ∀ l : List TAct, (flatT l).length = l.length * 3
  | [] => rfl
  | s :: r => by
    have := flatT_len r
    simp only [flatT, List.flatMap_cons, List.length_append, TAct.cs_len, List.length_cons] at this ⊢
    omega
theorem flatT_at : ∀ (l : List TAct) (i : Nat) (h : i < l.length) (j : Nat), j < 3 → (flatT l)[i * 3 + j]? = (l[i].cs)[j]?
  | s :: r, 0, _, j, hj => by
    simp only [flatT, List.flatMap_cons, Nat.zero_mul, Nat.zero_add, List.getElem_cons_zero]
    rw [List.getElem?_append_left (by rw [TAct.cs_len]; exact hj)]
  | s :: r, i + 1, h, j, hj => by
    have := flatT_at r i (by simpa using h) j hj
    simp only [flatT, List.flatMap_cons, List.getElem_cons_succ] at this ⊢
    rw [List.getElem?_append_right (by rw [TAct.cs_len]; omega), TAct.cs_len, show (i + 1) * 3 + j - 3 = i * 3 + j by omega]
    exact this
theorem rd_tact {w : World} {B : Nat} {A : Option Addr} {l : List TAct} (h : Rd w B A (flatT l)) (k : Nat) (hk : k < l.length) : ∃ b off, A = some ⟨b, off, none⟩ ∧ b < B ∧ w.rangeAt b (off + k * 3) l[k].cs := by
  obtain ⟨b, off, e, hl, hc⟩ := h (by rw [flatT_len]; omega)
  refine ⟨b, off, e, hl, fun j v hv => ?_⟩
  have hj : j < 3 := by have := (List.getElem?_eq_some_iff.1 hv).1; rwa [TAct.cs_len] at this
  rw [Nat.add_assoc]
  exact hc _ v (by rw [flatT_at l k hk j hj]; exact hv)
/-- What is known of the bytes of acts. -/
def DataOk (w : World) (B : Nat) (l : List TAct) : Prop := ∀ a ∈ l, Rd w B a.a (bys a.l) ∧ a.l.length ≤ 140737488351232
theorem cells_tact : Try.prog.cellsOf 41 = 3 := by kernel_rfl
theorem cells_byteT : Try.prog.cellsOf 5 = 1 := by kernel_rfl
theorem bytes_byteT : Try.prog.bytesOf 5 = 1 := by kernel_rfl
theorem cells_bytesT : Try.prog.cellsOf 39 = 1 := by kernel_rfl
section
variable {H : Type} {enc : TypeId × Value → H} {W : World} {r : Reach} {b0 : Nat} {v : Value} {d : DataW H} {p : List MemPlace}
theorem weights_all {P : Program} {e : TypeId} {x : DataW H} {n : Nat} : ∀ {l : List (DataW H)}, x ∈ l → n ∈ DataW.weights P e x → n ∈ DataW.weightsAll P e l
  | y :: l, h, hn => by
    unfold DataW.weightsAll
    rcases List.mem_cons.1 h with rfl | h
    · exact List.mem_append_left _ hn
    · exact List.mem_append_right _ (weights_all h hn)
theorem open_bytesc {fuel : Nat} {cs : List Value} {x : DataW H × List MemPlace} (h : DataW.trod enc Try.prog W 0 (fun _ => true) true fuel 39 cs = some x) (hlt : ∀ q ∈ x.2, q.block < W.heap.size) :
    ∃ A c, ∃ l : List UInt8, cs = [.slice A l.length c] ∧ Rd W W.heap.size A (bys l) ∧ ((∀ n ∈ DataW.weights Try.prog 39 x.1, n ≤ reachBytes) → l.length ≤ 140737488351232) := by
  rcases open_slice1 Try.underlying39 cells_byteT h with ⟨hcs, hx⟩ | ⟨a', len', cap', m, n, V, D, Pl, hcs, _, hl, _, hmm, hx, hcell⟩
  · exact ⟨none, 0, [], hcs, Rd.nil, fun _ => by simp⟩
  · simp only [if_true] at hmm
    have each : ∀ i, i < len' → ∃ b : UInt8, W.cell? (a'.add i) = some (.int .u8 (b.toNat : Int)) := fun i hi => by
      obtain ⟨h1, h2⟩ := hcell i (by omega)
      obtain ⟨k, hk, _, wk⟩ := DataW.trod_int Try.underlying5 h2
      simp only [List.cons.injEq, and_true] at hk
      have hr := wf_u8 wk
      refine ⟨UInt8.ofNat k.toNat, ?_⟩
      rw [h1, hk, UInt8.toNat_ofNat']
      congr 2
      omega
    obtain ⟨l, hll, hl2⟩ := list_of len' each
    subst hx
    refine ⟨some a', cap', l, by rw [hll]; exact hcs, fun hn => ?_, fun hb => ?_⟩
    · simp only [bys, List.length_map] at hn
      obtain ⟨b, off, spot⟩ := a'
      have hspot : spot = none := by simpa [Addr.add] using World.cell?_spot (hl2 0 hn)
      subst hspot
      refine ⟨b, off, rfl, hlt (.cell b off) (List.mem_append_left _ (MemPlace.mem_row.2 ⟨0, by omega, by simp⟩)), fun j u hu => ?_⟩
      simp only [bys, List.getElem?_map, Option.map_eq_some_iff] at hu
      obtain ⟨x, hx, rfl⟩ := hu
      obtain ⟨hj, hxe⟩ := List.getElem?_eq_some_iff.1 hx
      have := hl2 j hj
      rw [add_plain, hxe] at this
      exact this
    · have := hb _ (show _ ∈ DataW.weights Try.prog 39 _ by simp only [DataW.weights, Try.underlying39]; exact List.mem_cons_self)
      rw [bytes_byteT] at this
      simp [reachBytes] at this
      omega
theorem open_tact {fuel : Nat} {cs : List Value} {x : DataW H × List MemPlace} (h : DataW.trod enc Try.prog W 0 (fun _ => true) true fuel 41 cs = some x) (hlt : ∀ q ∈ x.2, q.block < W.heap.size) :
    ∃ a : TAct, cs = a.cs ∧ Rd W W.heap.size a.a (bys a.l) ∧ ((∀ n ∈ DataW.weights Try.prog 41 x.1, n ≤ reachBytes) → a.l.length ≤ 140737488351232) := by
  obtain ⟨xs, m, _, hxx, hl, hn, hx⟩ := DataW.trod_struct Try.underlying41 h
  subst hxx
  rw [cells_tact] at hl
  have hn3 : xs.length = 3 := hn
  obtain ⟨x0, x1, x2, rfl⟩ : ∃ x0 x1 x2, xs = [x0, x1, x2] := by
    rcases xs with _ | ⟨x0, _ | ⟨x1, _ | ⟨x2, _ | ⟨x3, t⟩⟩⟩⟩ <;> simp at hn3
    exact ⟨x0, x1, x2, rfl⟩
  have h0 : DataW.trod enc Try.prog W 0 (fun _ => true) true m 3 ((cs.drop 0).take (Try.prog.cellsOf 3)) = some x0 := hx 0 _ rfl
  have h1 : DataW.trod enc Try.prog W 0 (fun _ => true) true m 3 ((cs.drop 1).take (Try.prog.cellsOf 3)) = some x1 := hx 1 _ rfl
  have h2 : DataW.trod enc Try.prog W 0 (fun _ => true) true m 39 ((cs.drop 2).take (Try.prog.cellsOf 39)) = some x2 := hx 2 _ rfl
  obtain ⟨k, hk, _, wk⟩ := DataW.trod_int Try.underlying3 h0
  obtain ⟨n, hn', _, wn⟩ := DataW.trod_int Try.underlying3 h1
  obtain ⟨A, c, l, hb, hr, hlen⟩ := open_bytesc h2 (fun q hq => hlt q (by simp [hq]))
  simp only [cells_int, List.drop_zero] at hk
  simp only [cells_int] at hn'
  simp only [cells_bytesT] at hb
  refine ⟨⟨k, n, l, A, c, wf_i64 wk, wf_i64 wn⟩, ?_, hr, fun hw => hlen fun n hn => hw n ?_⟩
  · have e : cs = cs.take 1 ++ ((cs.drop 1).take 1 ++ (cs.drop 2).take 1) := by
      have e2 : (cs.drop 2).take 1 = cs.drop 2 := List.take_of_length_le (by rw [List.length_drop]; omega)
      have e1 : (cs.drop 1).take 1 ++ cs.drop 2 = cs.drop 1 := by
        have := List.take_append_drop 1 (cs.drop 1)
        rwa [List.drop_drop] at this
      rw [e2, e1, List.take_append_drop]
    rw [e, hk, hn', hb]
    rfl
  · have ht : ((Try.prog.fieldsOf 41).toList.map (·.type)) = [3, 3, 39] := by kernel_rfl
    unfold Program.fieldsOf at ht
    simp only [Try.underlying41] at ht
    simp only [DataW.weights, Try.underlying41, ht, List.map_cons, List.map_nil, DataW.weightsEach]
    exact List.mem_append_right _ (List.mem_append_right _ (List.mem_append_left _ hn))
theorem open_tacts (hv : Value.okWide Try.prog W r b0 34 v) (h : DataW.Trod enc Try.prog W 0 (fun _ => true) true 34 v d p) (hlt : ∀ x ∈ p, x.block < W.heap.size) (hw : ∀ n ∈ DataW.weights Try.prog 34 d, n ≤ reachBytes) :
    ∃ A c, ∃ l : List TAct, v = .slice A l.length c ∧ Rd W W.heap.size A (flatT l) ∧ DataOk W W.heap.size l := by
  obtain ⟨a, len, cap, rfl⟩ := okWide_slice Try.underlying34 hv
  obtain ⟨fuel, hf⟩ := h
  rcases open_slice Try.underlying34 hf with ⟨hcs, hx⟩ | ⟨a', len', cap', m, n, D, Pl, hcs, _, hl, _, hmm, hx, hcell⟩
  · simp [Value.cells] at hcs
    obtain ⟨rfl, rfl, rfl⟩ := hcs
    exact ⟨none, 0, [], rfl, Rd.nil, fun _ h => by cases h⟩
  · simp [Value.cells] at hcs
    obtain ⟨rfl, rfl, rfl⟩ := hcs
    simp only [Prod.mk.injEq] at hx
    obtain ⟨rfl, rfl⟩ := hx
    simp only [if_true] at hmm
    have each : ∀ i, i < len → ∃ d : TAct, (∀ j, j < 3 → W.cell? (a'.add (i * 3 + j)) = d.cs[j]?) ∧ Rd W W.heap.size d.a (bys d.l) ∧ d.l.length ≤ 140737488351232 := fun i hi => by
      obtain ⟨cs', h1, h2⟩ := hcell i (by omega)
      rw [cells_tact] at h1
      obtain ⟨_, hlen, hc⟩ := World.cells?_some h1
      obtain ⟨d, rfl, hr, hk⟩ := open_tact h2 (fun q hq => hlt q (List.mem_append_right _ (List.mem_flatMap.2 ⟨i, List.mem_range.2 (by omega), hq⟩)))
      refine ⟨d, fun j hj => ?_, hr, hk fun n hn => hw n ?_⟩
      · have := hc j hj
        rwa [add_add] at this
      · simp only [DataW.weights, Try.underlying34]
        refine List.mem_cons_of_mem _ (List.mem_append_left _ (weights_all (x := D i) (List.mem_map.2 ⟨i, List.mem_range.2 hi, rfl⟩) hn))
    obtain ⟨l, hll, hl2⟩ := list_of len each
    refine ⟨some a', cap, l, by rw [hll], fun hn => ?_, fun x hx => ?_⟩
    · rw [flatT_len] at hn
      obtain ⟨b, off, spot⟩ := a'
      have h00 := (hl2 0 (by omega)).1 0 (by omega)
      have hspot : spot = none := by
        have h00' : W.cell? (({ block := b, off := off, spot := spot } : Addr).add (0 * 3 + 0)) = some (.int .i64 (l[0]'(by omega)).k) := h00
        simpa [Addr.add] using World.cell?_spot h00'
      subst hspot
      refine ⟨b, off, rfl, hlt (.cell b off) (List.mem_append_left _ (MemPlace.mem_row.2 ⟨0, by rw [cells_tact]; omega, by simp⟩)), fun j u hu => ?_⟩
      have hj : j < l.length * 3 := by have := (List.getElem?_eq_some_iff.1 hu).1; rwa [flatT_len] at this
      have h1 : j = j / 3 * 3 + j % 3 := by omega
      have h2 : j / 3 < l.length := by omega
      have h3 : j % 3 < 3 := by omega
      generalize j / 3 = q at *
      generalize j % 3 = t at *
      subst h1
      rw [flatT_at l q h2 t h3] at hu
      have := (hl2 q h2).1 t h3
      rw [add_plain] at this
      rw [this, hu]
    · obtain ⟨i, hi, rfl⟩ := List.getElem_of_mem hx
      exact (hl2 i hi).2
end
end
section
open Go.RowKit

/-- What Set leaves; what Trim leaves. -/
def setP (P : Pw) (F : P8) (S : Nat → P8) (i : Nat) (l : List UInt8) : Pw := turnP (putP P l) F S i (putQ P l)
def setQ (P : Pw) (F : P8) (S : Nat → P8) (i : Nat) (l : List UInt8) : PtrV := turnQ (putP P l) F S i (putQ P l)
def trimP (P : Pw) (F : P8) (S : Nat → P8) (i : Nat) : Pw := if blkQ S i = hole0 then P else turnP P F S i hole0
def trimQ (P : Pw) (root : PtrV) (F : P8) (S : Nat → P8) (i : Nat) : PtrV := if blkQ S i = hole0 then root else turnQ P F S i hole0
def trimO (root : PtrV) (F : P8) (S : Nat → P8) (i : Nat) : List PtrV := if blkQ S i = hole0 then [] else oldL F S root i
def natI64 (l : List Nat) : List Int := l.map fun n : Nat => (n : Int)
/-- The calls of package tree as the document has them, of trees that can be read; 'At w O g P' says that the block g of w is a pile of which P can be told, in the blocks O. -/
structure TreeCalls (At : World → (Nat → Prop) → Nat → Pw → Prop) : Prop where
  foot : ∀ {w O g P}, At w O g P → ∀ k, O k → k < w.heap.size
  stay : ∀ {w w' O O2 g P}, At w O g P → Chg w w' O2 → (∀ k, O k → ¬ O2 k) → At w' O g P
  made : ∀ (m : Nat) (w : World), m ≤ 1024 → Calls Try.prog 9 #[.int .i64 (m : Int)] w fun e w' => ∃ O g, e = .returned (.pointer (some ⟨g, 0, none⟩)) ∧ At w' O g (newPw (m : Int)) ∧ (∀ k, O k → w.heap.size ≤ k) ∧ Below w.heap.size w w'
  next : ∀ {w O g P}, At w O g P → P.st + 1 < 18446744073709551616 → Calls Try.prog 16 #[.pointer (some ⟨g, 0, none⟩)] w fun e w' => ∃ O', e = .returned (.tuple #[]) ∧ At w' O' g (nextW P) ∧ Step w w' O O'
  stamp : ∀ {w O g P}, At w O g P → Calls Try.prog 24 #[.pointer (some ⟨g, 0, none⟩)] w fun e w' => ∃ O', e = .returned (.int .u64 (P.st : Int)) ∧ At w' O' g P ∧ Step w w' O O'
  map : ∀ {w O g P}, At w O g P → ∃ gm, Calls Try.prog 19 #[.pointer (some ⟨g, 0, none⟩)] w fun e w' => e = .returned (.pointer (some ⟨gm, 0, none⟩)) ∧ Below w.heap.size w w' ∧
    ∀ w2, Below w'.heap.size w' w2 → Calls Try.prog 23 #[.pointer (some ⟨gm, 0, none⟩)] w2 (fun e w3 => e = .returned (.int .i64 (P.m.count : Int)) ∧ Below w2.heap.size w2 w3) ∧
      Calls Try.prog 20 #[.pointer (some ⟨gm, 0, none⟩)] w2 (fun e w3 => ∃ A c, e = .returned (.slice A (canon (stS P.m 1)).length c) ∧ Rd w3 w3.heap.size A (spc (canon (stS P.m 1))) ∧ Below w2.heap.size w2 w3)
  get : ∀ {w O g P root F S T} (i : Nat), i < 64 → At w O g P → OkW P → Tree P root F S T → Calls Try.prog 8 #[.pointer (some ⟨g, 0, none⟩), ptq root, .int .i64 (i : Int)] w fun e w' => ∃ O', e = .returned (.tuple #[.agg (T i).cs.toArray, .int .i64 0]) ∧ At w' O' g P ∧ Step w w' O O'
  getNo : ∀ {w O g P root} (i : Int), I64 i → ¬ (0 ≤ i ∧ i < 64) → At w O g P → PtrOk root → Calls Try.prog 8 #[.pointer (some ⟨g, 0, none⟩), ptq root, .int .i64 i] w fun e w' => ∃ O', e = .returned (.tuple #[.agg zsec.cs.toArray, .int .i64 111]) ∧ At w' O' g P ∧ Step w w' O O'
  set : ∀ {w O g P root F S T} (i : Nat) (A : Option Addr) (c : Nat) (l : List UInt8), i < 64 → At w O g P → OkW P → Tree P root F S T → RdA w O A (bys l) → l.length ≤ 128 → l.length ≤ c → 3 ≤ P.m.count → P.N ≤ 900000 →
    Calls Try.prog 12 #[.pointer (some ⟨g, 0, none⟩), ptq root, .int .i64 (i : Int), .slice A l.length c] w fun e w' => ∃ O' B d, e = .returned (.tuple #[ptq (setQ P F S i l), .slice B (oldL F S root i).length d, .int .i64 0]) ∧ At w' O' g (setP P F S i l) ∧ RdF w w' O' B (pqs (oldL F S root i)) ∧ Step w w' O O'
  setNo : ∀ {w O g P root} (i : Int) (A : Option Addr) (c : Nat) (l : List UInt8), I64 i → ¬ (0 ≤ i ∧ i < 64) → At w O g P → PtrOk root → RdA w O A (bys l) → l.length ≤ 140737488355328 →
    Calls Try.prog 12 #[.pointer (some ⟨g, 0, none⟩), ptq root, .int .i64 i, .slice A l.length c] w fun e w' => ∃ O' B d, e = .returned (.tuple #[ptq root, .slice B 0 d, .int .i64 111]) ∧ At w' O' g P ∧ Step w w' O O'
  setLong : ∀ {w O g P root} (i : Nat) (A : Option Addr) (c : Nat) (l : List UInt8), i < 64 → At w O g P → PtrOk root → RdA w O A (bys l) → 128 < l.length → l.length ≤ 140737488355328 →
    Calls Try.prog 12 #[.pointer (some ⟨g, 0, none⟩), ptq root, .int .i64 (i : Int), .slice A l.length c] w fun e w' => ∃ O' B d, e = .returned (.tuple #[ptq root, .slice B 0 d, .int .i64 92]) ∧ At w' O' g P ∧ Step w w' O O'
  trim : ∀ {w O g P root F S T} (i : Nat), i < 64 → At w O g P → OkW P → Tree P root F S T → (blkQ S i ≠ hole0 → need F S i hole0 ≤ P.m.count) → P.N ≤ 900000 →
    Calls Try.prog 11 #[.pointer (some ⟨g, 0, none⟩), ptq root, .int .i64 (i : Int)] w fun e w' => ∃ O' B d, e = .returned (.tuple #[ptq (trimQ P root F S i), .slice B (trimO root F S i).length d, .int .i64 0]) ∧ At w' O' g (trimP P F S i) ∧ RdF w w' O' B (pqs (trimO root F S i)) ∧ Step w w' O O'
  trimNo : ∀ {w O g P root} (i : Int), I64 i → ¬ (0 ≤ i ∧ i < 64) → At w O g P → PtrOk root → Calls Try.prog 11 #[.pointer (some ⟨g, 0, none⟩), ptq root, .int .i64 i] w fun e w' => ∃ O' B d, e = .returned (.tuple #[ptq root, .slice B 0 d, .int .i64 111]) ∧ At w' O' g P ∧ Step w w' O O'
  all : ∀ {w O g P root F S T} (t : Nat), t < 18446744073709551616 → At w O g P → OkW P → Tree P root F S T → Calls Try.prog 17 #[.pointer (some ⟨g, 0, none⟩), ptq root, .int .u64 (t : Int)] w fun e w' => ∃ O' B d, e = .returned (.tuple #[.slice B (allL (t : Int) root F S).length d, .int .i64 0]) ∧ At w' O' g P ∧ RdF w w' O' B (pqs (allL (t : Int) root F S)) ∧ Step w w' O O'
  blocks : ∀ {w O g P root F S T}, At w O g P → OkW P → Tree P root F S T → Calls Try.prog 14 #[.pointer (some ⟨g, 0, none⟩), ptq root] w fun e w' => ∃ O' B d, e = .returned (.tuple #[.slice B (blkL S).length d, .int .i64 0]) ∧ At w' O' g P ∧ RdF w w' O' B (ints (natI64 (blkL S))) ∧ Step w w' O O'
section
variable {At : World → (Nat → Prop) → Nat → Pw → Prop}
/-- A pile that a law has made, since the world w0. -/
structure HasT (At : World → (Nat → Prop) → Nat → Pw → Prop) (w0 w : World) (O : Nat → Prop) (g : Nat) (P : Pw) : Prop where
  at_ : At w O g P
  lo : ∀ k, O k → w0.heap.size ≤ k
  below : Below w0.heap.size w0 w
variable {w0 w w' : World} {O O' : Nat → Prop} {g : Nat} {P P' : Pw}
theorem HasT.step (h : HasT At w0 w O g P) (k : At w' O' g P') (s : Step w w' O O') : HasT At w0 w' O' g P' :=
  ⟨k, fun j hj => (s.new j hj).elim (h.lo j) fun h2 => Nat.le_trans h.below.size h2, h.below.trans (s.chg.below h.lo h.below.size)⟩
theorem HasT.far (L : TreeCalls At) (h : HasT At w0 w O g P) (hb : Below w.heap.size w w') : HasT At w0 w' O g P :=
  ⟨L.stay h.at_ (Chg.of_below (O := fun _ => False) hb) (fun _ _ => id), h.lo, h.below.trans (hb.mono h.below.size)⟩
theorem HasT.first (hb : Below w0.heap.size w0 w) (h : At w' O' g P) (hO : ∀ k, O' k → w.heap.size ≤ k) (hb' : Below w.heap.size w w') : HasT At w0 w' O' g P :=
  ⟨h, fun k hk => Nat.le_trans hb.size (hO k hk), hb.trans (hb'.mono hb.size)⟩
/-- A block of the law's own is left alone by what turns the pile. -/
theorem Blk.aside {gb : Nat} {t : TypeId} {cs : Array Value} (hb : Blk w gb t cs) (hn : ¬ O gb) (s : Step w w' O O') : Blk w' gb t cs ∧ (¬ O' gb) :=
  ⟨hb.chg s.chg hn, fun h => (s.new gb h).elim hn fun h2 => by have := hb.lt; omega⟩
end
variable {n : Nat} {P : Pw} {root : PtrV} {F : P8} {S : Nat → P8} {T : Nat → Sec} {old : List PtrV} {i : Nat}
theorem need_le (F : P8) (S : Nat → P8) (i : Nat) (q : PtrV) : need F S i q ≤ 2 := by
  unfold need
  split
  · split <;> omega
  · omega
/-- Set, where there is room. -/
theorem Good.set (h : Good n P root F S T old) (hi : i < 64) {l : List UInt8} (hl : l.length ≤ 128) (hc : 3 ≤ P.m.count) :
    ∃ F' S', Good n (setP P F S i l) (setQ P F S i l) F' S' (setT T i (blockS l)) (old ++ oldL F S root i) ∧ (setP P F S i l).st = P.st ∧ (setP P F S i l).m.tot = P.m.tot ∧ (setP P F S i l).N ≤ P.N + 3 ∧ P.m.count ≤ (setP P F S i l).m.count + 3 ∧
      (∀ {r : PtrV} {x : Sec}, Held P r x → Held (setP P F S i l) r x) ∧ putQ P l ≠ hole0 ∧ ∀ j, blkQ S' j = if j = i then putQ P l else blkQ S j := by
  obtain ⟨_, g, hq, hne⟩ := put_grew h.ok hl (by omega)
  have hN := g.N
  have hcn := g.cnt
  have h1 : cN (putQ P l) ≤ 1 := by unfold cN; split <;> omega
  obtain ⟨k, a1, a2, a3, t⟩ := h.turn g hq hi (by have := need_le F S i (putQ P l); omega)
  refine ⟨_, _, k, a1, a2, by show (turnP (putP P l) F S i (putQ P l)).N ≤ _; omega, ?_, fun hr => t.held (g.held hr), hne, fun j => setS_blk j⟩
  have := t.cnt
  have c1 : cN (midQ (putP P l) S i (putQ P l)) ≤ 1 := by unfold cN; split <;> omega
  have c2 : cN (turnQ (putP P l) F S i (putQ P l)) ≤ 1 := by unfold cN; split <;> omega
  show P.m.count ≤ (turnP (putP P l) F S i (putQ P l)).m.count + 3
  omega
/-- Trim, where there is room. -/
theorem Good.trim (h : Good n P root F S T old) (hi : i < 64) (hc : 2 ≤ P.m.count) :
    (blkQ S i ≠ hole0 → need F S i hole0 ≤ P.m.count) ∧ ∃ F' S', Good n (trimP P F S i) (trimQ P root F S i) F' S' (setT T i zsec) (old ++ trimO root F S i) ∧ (trimP P F S i).st = P.st ∧ (trimP P F S i).m.tot = P.m.tot ∧ (trimP P F S i).N ≤ P.N + 2 ∧ P.m.count ≤ (trimP P F S i).m.count + 2 ∧
      (∀ {r : PtrV} {x : Sec}, Held P r x → Held (trimP P F S i) r x) ∧ ∀ j, blkQ S' j = if j = i then hole0 else blkQ S j := by
  have hnl := need_le F S i hole0
  refine ⟨fun _ => by omega, ?_⟩
  unfold trimP trimQ trimO
  by_cases hb : blkQ S i = hole0
  · simp only [if_pos hb]
    have hT : setT T i zsec = T := funext fun j => by
      unfold setT
      split
      · next e =>
        subst e
        have := h.tree.blk j hi
        have hb' : (S (j / 8)).at_ (j % 8) = hole0 := hb
        rw [hb'] at this
        exact this.zero.symm
      · rfl
    refine ⟨F, S, by rw [hT, List.append_nil]; exact h, trivial, trivial, by omega, by omega, id, fun j => ?_⟩
    split
    · next e => rw [e]; exact hb
    · rfl
  · simp only [if_neg hb]
    obtain ⟨k, a1, a2, a3, t⟩ := h.turn (.same h.ok) (held_hole P) hi (by omega)
    refine ⟨_, _, k, a1, a2, a3, ?_, fun hr => t.held hr, fun j => setS_blk j⟩
    have := t.cnt
    have c1 : cN (midQ P S i hole0) ≤ 1 := by unfold cN; split <;> omega
    have c2 : cN (turnQ P F S i hole0) ≤ 1 := by unfold cN; split <;> omega
    omega
end
section
open Go.RowKit

/-! ### The example -/
def xL : List UInt8 := [120]
/-- A block set in a hole, and trimmed: what is told of it. -/
structure AliveT (q3 : PtrV) (F : P8) (S : Nat → P8) (T : Nat → Sec) : Prop where
  set : setQ (newPw 64) zp8 (fun _ => zp8) 9 xL = q3
  good : Good 60 (setP (newPw 64) zp8 (fun _ => zp8) 9 xL) q3 F S T []
  cnt : (setP (newPw 64) zp8 (fun _ => zp8) 9 xL).m.count = 57
  N : (setP (newPw 64) zp8 (fun _ => zp8) 9 xL).N ≤ 3
  old0 : oldL zp8 (fun _ => zp8) hole0 9 = []
  blk : blkQ S 9 ≠ hole0
  need : need F S 9 hole0 = 0
  hole : turnQ (setP (newPw 64) zp8 (fun _ => zp8) 9 xL) F S 9 hole0 = hole0
  same : turnP (setP (newPw 64) zp8 (fun _ => zp8) 9 xL) F S 9 hole0 = setP (newPw 64) zp8 (fun _ => zp8) 9 xL
  old : ∃ a b, oldL F S q3 9 = [a, b, q3]
  text : T 9 = blockS xL
theorem set_set (p : P8) (j : Nat) (q r : PtrV) : (p.set j q).set j r = p.set j r := P8.eq (by simp [P8.set])
theorem set_hole8 (j : Nat) : emptyF (zp8.set j hole0) = true := empty_iff.2 fun k hk => by
  rw [P8.set_at _ _ _ _ hk]
  split
  · rfl
  · exact zp8_at k hk
theorem aliveT : ∃ q3 F S T, AliveT q3 F S T := by
  have hg := good_zero 64 (by omega) (by omega)
  have hg : Good 60 (newPw 64) hole0 zp8 (fun _ => zp8) (fun _ => zsec) [] := hg
  have hc : (newPw 64).m.count = 60 := count_new 64
  obtain ⟨_, g, hq, hne⟩ := put_grew hg.ok (l := xL) (by decide) (by omega)
  have hN := g.N
  have hcn := g.cnt
  have h1 : ∀ {q : PtrV}, q ≠ hole0 → cN q = 1 := fun h => if_pos h
  rw [h1 hne] at hcn
  obtain ⟨k, a1, a2, a3, t⟩ := hg.turn (i := 9) g hq (by omega) (by have := need_le zp8 (fun _ => zp8) 9 (putQ (newPw 64) xL); omega)
  have hzS : newS (fun _ => zp8) 9 (putQ (newPw 64) xL) = zp8.set 1 (putQ (newPw 64) xL) := rfl
  have hm : midQ (putP (newPw 64) xL) (fun _ => zp8) 9 (putQ (newPw 64) xL) ≠ hole0 := fun e => by
    have := (k.nonK 1 (by omega)).1 (by
      show (newF (putP (newPw 64) xL) zp8 (fun _ => zp8) 9 (putQ (newPw 64) xL)).at_ 1 = hole0
      unfold newF
      rw [P8.set_at _ _ _ _ (by omega), if_pos rfl]
      exact e)
    have h2 : setS (fun _ => zp8) 9 (putQ (newPw 64) xL) 1 = zp8.set 1 (putQ (newPw 64) xL) := rfl
    rw [h2] at this
    exact hne (empty_set (by omega) this)
  have hn : turnQ (putP (newPw 64) xL) zp8 (fun _ => zp8) 9 (putQ (newPw 64) xL) ≠ hole0 := fun e => by
    have := k.nonE.1 e
    exact hm (empty_set (p := zp8) (j := 1) (by omega) this)
  have hcnt := t.cnt
  rw [h1 hm, h1 hn] at hcnt
  have ho0 : oldL zp8 (fun _ => zp8) hole0 9 = [] := by
    have e1 : blkQ (fun _ => zp8) 9 = hole0 := zp8_at 1 (by omega)
    have e2 : zp8.at_ (9 / 8) = hole0 := zp8_at 1 (by omega)
    unfold oldL
    rw [e1, e2]
    rfl
  rw [ho0] at k
  have hS1 : newS (setS (fun _ => zp8) 9 (putQ (newPw 64) xL)) 9 hole0 = zp8.set 1 hole0 := by
    show (zp8.set 1 (putQ (newPw 64) xL)).set 1 hole0 = _
    rw [set_set]
  have hF1 : (newF (putP (newPw 64) xL) zp8 (fun _ => zp8) 9 (putQ (newPw 64) xL)).set (9 / 8) hole0 = zp8.set 1 hole0 := by
    show (zp8.set 1 _).set 1 hole0 = _
    rw [set_set]
  have hmid : ∀ Q : Pw, midQ Q (setS (fun _ => zp8) 9 (putQ (newPw 64) xL)) 9 hole0 = hole0 ∧ midP Q (setS (fun _ => zp8) 9 (putQ (newPw 64) xL)) 9 hole0 = Q := fun Q => by
    unfold midQ midP putNQ putNP
    rw [hS1, set_hole8]
    exact ⟨rfl, rfl⟩
  have hF2 : ∀ Q : Pw, newF Q (newF (putP (newPw 64) xL) zp8 (fun _ => zp8) 9 (putQ (newPw 64) xL)) (setS (fun _ => zp8) 9 (putQ (newPw 64) xL)) 9 hole0 = zp8.set 1 hole0 := fun Q => by
    unfold newF
    rw [(hmid Q).1]
    exact hF1
  have hb : blkQ (setS (fun _ => zp8) 9 (putQ (newPw 64) xL)) 9 = putQ (newPw 64) xL := by rw [setS_blk, if_pos rfl]
  refine ⟨_, _, _, _, ⟨rfl, k, ?_, by show (turnP (putP (newPw 64) xL) zp8 (fun _ => zp8) 9 (putQ (newPw 64) xL)).N ≤ 3; have : (newPw 64).N = 0 := rfl; omega, ho0, by rw [hb]; exact hne, ?_, ?_, ?_, ?_, if_pos rfl⟩⟩
  · show (turnP (putP (newPw 64) xL) zp8 (fun _ => zp8) 9 (putQ (newPw 64) xL)).m.count = 57
    omega
  · unfold Go.Proofs.Ytagkhicbngaghaa.need
    rw [hS1, set_hole8, hF1, set_hole8]
    rfl
  · unfold turnQ putNQ
    rw [hF2, set_hole8]
    rfl
  · unfold turnP putNP
    rw [hF2, set_hole8, (hmid _).2]
    rfl
  · refine ⟨putQ (newPw 64) xL, midQ (putP (newPw 64) xL) (fun _ => zp8) 9 (putQ (newPw 64) xL), ?_⟩
    have hf : (newF (putP (newPw 64) xL) zp8 (fun _ => zp8) 9 (putQ (newPw 64) xL)).at_ (9 / 8) = midQ (putP (newPw 64) xL) (fun _ => zp8) 9 (putQ (newPw 64) xL) := by
      unfold newF
      rw [P8.set_at _ _ _ _ (by omega), if_pos rfl]
    have hk : ∀ {q : PtrV}, q ≠ hole0 → (!holeF q.1 q.2.1 q.2.2) = true := fun {q} h => by
      rw [Bool.not_eq_true', ← Bool.not_eq_true, hole_iff]
      exact h
    unfold oldL
    rw [hb, hf]
    rw [List.filter_cons, if_pos (hk hne), List.filter_cons, if_pos (hk hm), List.filter_cons, if_pos (hk (show setQ (newPw 64) zp8 (fun _ => zp8) 9 xL ≠ hole0 from hn)), List.filter_nil]
end
section
open Go.RowKit

theorem buildX (w : World) : (Instr.build 23 #[(0, .int .u8 120)]).run Try.prog w = .ok (.agg (blockS xL).cs.toArray) w := by
  refine run_build w _ _ _ ?_
  kernel_rfl
theorem ex_buildX {o : Oper} {a : Act} {w : World} (ho : o.op = .build 23 #[(0, .const (.int .u8 120))]) :
    (execOp a.eval o).run Try.prog w = .ok (.value (.agg (blockS xL).cs.toArray)) w := by
  have hb := buildX w
  unfold execOp
  simp only [ho, List.map_toArray, List.map_cons, List.map_nil, Act.eval, Sem.run_bind, hb, Sem.run_pure, Result.andThen_ok]
theorem ex_eqPt {o : Oper} {a : Act} {w : World} (x y : Operand) (ho : o.op = .binOp .eql 32 x y 32) (p q : PtrV) (hx : a.eval x = ptq p) (hy : a.eval y = ptq q) :
    (execOp a.eval o).run Try.prog w = .ok (.value (.bool (sameQ p q))) w := by
  have hg : ∀ x y w, (eqGuard .eql 32 x y (ptq p) (ptq q)).run Try.prog w = .ok () w := fun x y w => run_eqGuard_agg w _ _ _ _ _ _ (by kernel_rfl)
  unfold execOp
  simp only [ho, hx, hy, hg, run_eqP, Sem.run_bind, Sem.run_pure, Result.andThen_ok]
  rfl
theorem sameQ_self (p : PtrV) : sameQ p p = true := by simp [sameQ]
theorem foot_ne {At : World → (Nat → Prop) → Nat → Pw → Prop} (L : TreeCalls At) {w : World} {O : Nat → Prop} {g : Nat} {P : Pw} (h : At w O g P) : ¬ O w.heap.size := fun ho => by have := L.foot h _ ho; omega
theorem RdF.rdA {w w' w'' : World} {O O' : Nat → Prop} {A : Option Addr} {xs : List Value} (h : RdF w w' O A xs) (s : Step w' w'' O O') : RdA w'' O' A xs := RdA.step h.toRdA s
structure AliveS (w' : World) (gq gs gh b off : Nat) (ra rb rc : Int) : Prop where
  root : Blk w' gq 32 (pcs ra rb rc)
  sec : Blk w' gs 23 (blockS xL).cs.toArray
  hole : Blk w' gh 32 (pcs 0 0 0)
  lt : b < w'.heap.size
  c0 : w'.cell? ⟨b, off + 6, none⟩ = some (.int .i64 ra)
  c1 : w'.cell? ⟨b, off + 6 + 1, none⟩ = some (.int .u64 rb)
  c2 : w'.cell? ⟨b, off + 6 + 2, none⟩ = some (.int .u32 rc)
theorem AliveS.later {w' w'' : World} {gq gs gh b off : Nat} {ra rb rc : Int} (h : AliveS w' gq gs gh b off ra rb rc) (hb : Below w'.heap.size w' w'') : AliveS w'' gq gs gh b off ra rb rc :=
  ⟨h.root.below hb h.root.lt, h.sec.below hb h.sec.lt, h.hole.below hb h.hole.lt, Nat.lt_of_lt_of_le h.lt hb.size, (hb.cell (p := ⟨b, off + 6, none⟩) h.lt).trans h.c0, (hb.cell (p := ⟨b, off + 6 + 1, none⟩) h.lt).trans h.c1, (hb.cell (p := ⟨b, off + 6 + 2, none⟩) h.lt).trans h.c2⟩
theorem ex_ldPo {o : Oper} {a : Act} {w : World} (x : Operand) (ho : o.op = .load 32 x) (g k : Nat) (i j l : Int) (hx : a.eval x = .pointer (some ⟨g, k, none⟩))
    (c0 : w.cell? ⟨g, k, none⟩ = some (.int .i64 i)) (c1 : w.cell? ⟨g, k + 1, none⟩ = some (.int .u64 j)) (c2 : w.cell? ⟨g, k + 2, none⟩ = some (.int .u32 l)) :
    (execOp a.eval o).run Try.prog w = .ok (.value (ptv i j l)) w := by
  have h := run_loadAt_mid w g k _ [.int .i64 i, .int .u64 j, .int .u32 l] _ (fun n v hv => by
    match n with
    | 0 => exact c0.trans hv
    | 1 => exact c1.trans hv
    | 2 => exact c2.trans hv
    | n + 3 => simp at hv) Try.underlying32 rfl ptr_size
  unfold execOp
  simp only [ho, hx, h, Sem.run_bind, Sem.run_pure, Result.andThen_ok]
section
variable {At : World → (Nat → Prop) → Nat → Pw → Prop}
set_option maxHeartbeats 4000000 in
theorem treeAlive_any (L : TreeCalls At) (w : World) : Calls Try.prog 10 #[] w fun e w' => e = .returned (.bool true) ∧ Below w.heap.size w w' := by
  obtain ⟨⟨ra, rb, rc⟩, F, S, T, hA⟩ := aliveT
  obtain ⟨qa, qb, hold⟩ := hA.old
  have HM := Lib.hid (L.made 64 w (by omega))
  have HALL := Lib.hid hA
  have HOLD := Lib.hid hold
  clear hA hold
  have hok0 := Lib.hid (good_zero 64 (by omega) (by omega)).ok
  go_enter Try.func10, Try.ntmps10
  go_wp2_with fail
  refine Calls.mono HM.out ?_
  rintro e w1 ⟨O1, g, rfl, h1, hO1, hb1⟩
  have m1 := HasT.first (Below.refl _ _) h1 hO1 hb1
  clear HM h1 hO1 hb1
  have hcv := Go.Joins.run_convert_bytes_const_at (P := Try.prog) w1 39 5 #[.int .u8 120] 1 1 w1.heap.size rfl Try.underlying39 Try.underlying5
  have m2 := m1.far L (Below.refl w1.heap.size w1 |>.alloc (Nat.le_refl _) (.cells #[.int .u8 120] 5 (1, 2)))
  have r2 : RdA (w1.alloc (.cells #[.int .u8 120] 5 (1, 2))) O1 (some ⟨w1.heap.size, 0, none⟩) (bys xL) := ⟨rd_newf w1 #[.int .u8 120] 5 (1, 2), fun b off e _ ho => by
    simp only [Option.some.injEq, Addr.mk.injEq] at e
    have := L.foot m1.at_ b ho
    omega⟩
  have HP := L.set 9 _ 1 xL (by omega) m2.at_ hok0.out (tree_zero _) r2 (by decide) (by decide) (by have : (newPw 64).m.count = 60 := count_new 64; show 3 ≤ (newPw 64).m.count; omega) (by show 0 ≤ _; omega)
  have e0 : setQ (newPw (64 : Nat)) zp8 (fun _ => zp8) 9 xL = (ra, rb, rc) := HALL.out.set
  have e1 : oldL zp8 (fun _ => zp8) hole0 9 = [] := HALL.out.old0
  rw [e0, e1] at HP
  have HPP := Lib.hid HP
  have M2 := Lib.hid m2
  clear m1 m2 r2 HP e0 e1
  go_wp2_with fail
  refine Calls.mono HPP.out ?_
  rintro e w3 ⟨O3, B3, d3, rfl, h3, -, s3⟩
  have m3 := M2.out.step h3 s3
  clear HPP M2 h3 s3 hcv hok0
  generalize hP3 : setP (newPw (64 : Nat)) zp8 (fun _ => zp8) 9 xL = P3 at *
  have HAA : Hid (Good 60 P3 (ra, rb, rc) F S T [] ∧ P3.m.count = 57 ∧ P3.N ≤ 3) := by
    rw [← hP3]
    exact ⟨HALL.out.good, HALL.out.cnt, HALL.out.N⟩
  have HTR : Hid (trimQ P3 (ra, rb, rc) F S 9 = ((0, 0, 0) : PtrV) ∧ trimP P3 F S 9 = P3 ∧ trimO (ra, rb, rc) F S 9 = [qa, qb, (ra, rb, rc)] ∧ (blkQ S 9 ≠ hole0 → need F S 9 hole0 ≤ P3.m.count)) := by
    rw [← hP3]
    unfold trimQ trimP trimO
    rw [if_neg HALL.out.blk, if_neg HALL.out.blk, if_neg HALL.out.blk]
    exact ⟨HALL.out.hole, HALL.out.same, HOLD.out, fun _ => by rw [HALL.out.need]; omega⟩
  have HTX := Lib.hid HALL.out.text
  clear hP3 HALL HOLD
  have hz := zeroPtr
  have HB := Lib.hid (Below.refl w3.heap.size w3 |>.alloc (Nat.le_refl _) (.cells (pcs ra rb rc) 32))
  have m4 := m3.far L HB.out
  have q4 : BlkA (w3.alloc (.cells (pcs ra rb rc) 32)) O3 w3.heap.size 32 (pcs ra rb rc) := ⟨Blk.new w3 _ _, foot_ne L m3.at_⟩
  have HG := L.get 9 (by omega) m4.at_ HAA.out.1.ok HAA.out.1.tree
  rw [HTX.out] at HG
  have HGG := Lib.hid HG
  have HM4 := Lib.hid (And.intro m4 q4)
  clear m3 m4 q4 HG HB HTX
  go_wp2_with fail
  refine Calls.mono HGG.out ?_
  rintro e w5 ⟨O5, rfl, h5, s5⟩
  have m5 := HM4.out.1.step h5 s5
  have q5 := HM4.out.2.step s5
  clear HGG HM4 h5 s5 hz
  generalize w3.heap.size = gq at *
  have hz : ∀ w, Sem.run Try.prog (zeroValue 23) w = .ok (.agg zsec.cs.toArray) w := zeroSec
  have hn : Hid (Blk (w5.alloc (.cells zsec.cs.toArray 23)) w5.heap.size 23 zsec.cs.toArray) := Blk.new _ _ _
  have HM5 := Lib.hid (And.intro m5 q5)
  clear m5 q5
  go_upto_region 4 with ((with_reducible refine st_sec rfl _ _ rfl w5.heap.size 0 (blockS xL) rfl rfl hn.out.secHas ?_); intro w6 hw6)
  have hb6 : Hid (Below w5.heap.size w5 w6) := by rw [hw6.out]; exact Below.setCells _ (Nat.le_refl _) _ _ ((Below.refl _ _).alloc (Nat.le_refl _) _)
  have m6 := HM5.out.1.far L hb6.out
  have q6 := HM5.out.2.later hb6.out
  have x6 : BlkA w6 O5 w5.heap.size 23 (blockS xL).cs.toArray := ⟨by rw [hw6.out]; exact hn.out.secAll _, foot_ne L HM5.out.1.at_⟩
  clear hw6 hn HM5 hb6 hz
  generalize w5.heap.size = gs at *
  have hq0 : w6.cell? ⟨gq, 0, none⟩ = some (.int .i64 ra) := q6.blk.cell 0
  have hq1 : w6.cell? ⟨gq, 1, none⟩ = some (.int .u64 rb) := q6.blk.cell 1
  have hq2 : w6.cell? ⟨gq, 2, none⟩ = some (.int .u32 rc) := q6.blk.cell 2
  have HT := L.trim 9 (by omega) m6.at_ HAA.out.1.ok HAA.out.1.tree HTR.out.2.2.2 (by have := HAA.out.2.2; omega)
  rw [HTR.out.1, HTR.out.2.1, HTR.out.2.2.1] at HT
  have HTT := Lib.hid HT
  have HM6 := Lib.hid (And.intro m6 (And.intro q6 x6))
  clear m6 q6 x6 HT
  go_wp2_with fail
  refine Calls.mono HTT.out ?_
  rintro e w7 ⟨O7, B7, d7, rfl, h7, r7, s7⟩
  have m7 := HM6.out.1.step h7 s7
  have q7 := HM6.out.2.1.step s7
  have x7 := HM6.out.2.2.step s7
  clear HTT HM6 h7 s7 hq0 hq1 hq2 HTR
  have hz := zeroPtr
  have HB := Lib.hid (Below.refl w7.heap.size w7 |>.alloc (Nat.le_refl _) (.cells (pcs 0 0 0) 32))
  have m8 := m7.far L HB.out
  have q8 := q7.later HB.out
  have x8 := x7.later HB.out
  have y8 : Blk (w7.alloc (.cells (pcs 0 0 0) 32)) w7.heap.size 32 (pcs 0 0 0) := Blk.new w7 _ _
  have r8 := (r7.rd.below HB.out).mono HB.out.size
  obtain ⟨b, off, rfl, hbl, hc0, hc1, hc2⟩ := pq_at r8 2 (by simp)
  have HM8 := Lib.hid (And.intro m8 (And.intro q8.blk (And.intro x8.blk (And.intro y8 (And.intro hbl (And.intro hc0 (And.intro hc1 hc2)))))))
  clear m7 q7 x7 m8 q8 x8 y8 r7 r8 HB hbl hc0 hc1 hc2
  go_wp2_with fail
  have HD := (Below.refl (w7.alloc (.cells (pcs 0 0 0) 32)).heap.size (w7.alloc (.cells (pcs 0 0 0) 32))).drew
  have HM9 : Hid (HasT At w (w7.alloc (.cells (pcs 0 0 0) 32)).drew O7 g P3) := HM8.out.1.far L HD
  have HS9 : Hid (AliveS (w7.alloc (.cells (pcs 0 0 0) 32)).drew gq gs w7.heap.size b off ra rb rc) := (AliveS.mk HM8.out.2.1 HM8.out.2.2.1 HM8.out.2.2.2.1 HM8.out.2.2.2.2.1 HM8.out.2.2.2.2.2.1 HM8.out.2.2.2.2.2.2.1 HM8.out.2.2.2.2.2.2.2).later HD
  clear HM8 HD hz
  refine wp_region_held_drew (S := (fun w' => AliveS w' gq gs w7.heap.size b off ra rb rc)) (by kernel_rfl) HS9.out (fun hHeld => ?_)
  generalize (w7.alloc (.cells (pcs 0 0 0) 32)).drew = w9 at *
  generalize w7.heap.size = gh at *
  obtain ⟨gm, hmap⟩ := L.map HM9.out.at_
  have HMap := Lib.hid hmap
  clear hmap
  refine wpAnyH_take (i := 0) (v := (.int .i64 0)) rfl (by kernel_rfl) (by kernel_rfl) (by kernel_rfl) (fun _ _ _ h => h) (Or.inl ⟨by rfl, ?_⟩) (by assumption) ?_
  · intro w' hS; go_simp; try with_reducible rfl
  try simp [Act.put]
  refine wpAnyH_take (i := 1) (v := (.bool true)) rfl (by kernel_rfl) (by kernel_rfl) (by kernel_rfl) (fun _ _ _ h => h) (Or.inl ⟨by rfl, ?_⟩) (by assumption) ?_
  · intro w' hS; go_simp; try with_reducible rfl
  try simp [Act.put]
  refine wpAnyH_take (i := 2) (v := (.bool true)) rfl (by kernel_rfl) (by kernel_rfl) (by kernel_rfl) (fun _ _ _ h => h) (Or.inl ⟨by rfl, ?_⟩) (by assumption) ?_
  · intro w' hS; go_simp; try with_reducible rfl
  try simp [Act.put]
  refine wpAnyH_take (i := 3) (v := (.slice B3 0 d3)) rfl (by kernel_rfl) (by kernel_rfl) (by kernel_rfl) (fun _ _ _ h => h) (Or.inl ⟨by rfl, ?_⟩) (by assumption) ?_
  · intro w' hS; go_simp; try with_reducible rfl
  try simp [Act.put]
  refine wpAnyH_take (i := 4) (v := (.int .i64 0)) rfl (by kernel_rfl) (by kernel_rfl) (by kernel_rfl) (fun _ _ _ h => h) (Or.inl ⟨by rfl, ?_⟩) (by assumption) ?_
  · intro w' hS; go_simp; try with_reducible rfl
  try simp [Act.put]
  refine wpAnyH_take (i := 5) (v := (.bool true)) rfl (by kernel_rfl) (by kernel_rfl) (by kernel_rfl) (fun _ _ _ h => h) (Or.inl ⟨by rfl, ?_⟩) (by assumption) ?_
  · intro w' hS; go_simp; try with_reducible rfl
  try simp [Act.put]
  refine wpAnyH_take (i := 6) (v := (.bool true)) rfl (by kernel_rfl) (by kernel_rfl) (by kernel_rfl) (fun _ _ _ h => h) (Or.inl ⟨by rfl, ?_⟩) (by assumption) ?_
  · intro w' hS; go_simp; try with_reducible rfl
  try simp [Act.put]
  refine wpAnyH_take (i := 7) (v := (.bool true)) rfl (by kernel_rfl) (by kernel_rfl) (by kernel_rfl) (fun _ _ _ h => h) (Or.inl ⟨by rfl, ?_⟩) (by assumption) ?_
  · intro w' hS; go_simp; try with_reducible rfl
  try simp [Act.put]
  refine wpAnyH_take (i := 8) (v := (.pointer (some ⟨g, 0, none⟩))) rfl (by kernel_rfl) (by kernel_rfl) (by kernel_rfl) (fun _ _ _ h => h) (Or.inl ⟨by rfl, ?_⟩) (by assumption) ?_
  · intro w' hS; go_simp; try with_reducible rfl
  try simp [Act.put]
  refine wpAnyH_ready (rs := [9]) (by kernel_rfl) (by simp) ?_
  refine AllReadyH.cons rfl (fun K hK => ?_) AllReadyH.nil
  go_simp
  refine Calls.mono HMap.out ?_
  rintro e wa ⟨rfl, hba, hcnt⟩
  have HC := (hcnt wa (Below.refl _ _)).1
  rw [HAA.out.2.1] at HC
  have HCC := Lib.hid HC
  have HMa := Lib.hid (HM9.out.far L hba)
  have HSa := Lib.hid (HS9.out.later hba)
  refine hK.out _ _ HSa.out (fun hHeld2 => ?_)
  clear hK K HMap hcnt hba HC HM9 HS9
  try simp
  clear hHeld
  have hHeld := hHeld2
  clear hHeld2
  refine wpAnyH_ready (rs := [10]) (by kernel_rfl) (by simp) ?_
  refine AllReadyH.cons rfl (fun K hK => ?_) AllReadyH.nil
  go_simp
  refine Calls.mono HCC.out ?_
  rintro e wb ⟨rfl, hbb⟩
  have HMb := Lib.hid (HMa.out.far L hbb)
  have HSb := Lib.hid (HSa.out.later hbb)
  refine hK.out _ _ HSb.out (fun hHeld2 => ?_)
  clear hK K HCC hbb HMa HSa
  try simp
  clear hHeld
  have hHeld := hHeld2
  clear hHeld2
  refine wpAnyH_take (i := 11) (v := (.bool true)) rfl (by kernel_rfl) (by kernel_rfl) (by kernel_rfl) (fun _ _ _ h => h) (Or.inl ⟨by rfl, ?_⟩) (by assumption) ?_
  · intro w' hS; go_simp; try with_reducible rfl
  try simp [Act.put]
  refine wpAnyH_take (i := 12) (v := (.bool true)) rfl (by kernel_rfl) (by kernel_rfl) (by kernel_rfl) (fun _ _ _ h => h) (Or.inl ⟨by rfl, ?_⟩) (by assumption) ?_
  · intro w' hS; go_simp; try with_reducible rfl
  try simp [Act.put]
  refine wpAnyH_take (i := 13) (v := (.bool true)) rfl (by kernel_rfl) (by kernel_rfl) (by kernel_rfl) (fun _ _ _ h => h) (Or.inl ⟨by rfl, ?_⟩) (by assumption) ?_
  · intro w' hS; go_simp; try with_reducible rfl
  try simp [Act.put]
  refine wpAnyH_take (i := 14) (v := (.int .i64 0)) rfl (by kernel_rfl) (by kernel_rfl) (by kernel_rfl) (fun _ _ _ h => h) (Or.inl ⟨by rfl, ?_⟩) (by assumption) ?_
  · intro w' hS; go_simp; try with_reducible rfl
  try simp [Act.put]
  refine wpAnyH_take (i := 15) (v := (.bool true)) rfl (by kernel_rfl) (by kernel_rfl) (by kernel_rfl) (fun _ _ _ h => h) (Or.inl ⟨by rfl, ?_⟩) (by assumption) ?_
  · intro w' hS; go_simp; try with_reducible rfl
  try simp [Act.put]
  refine wpAnyH_take (i := 16) (v := (.bool true)) rfl (by kernel_rfl) (by kernel_rfl) (by kernel_rfl) (fun _ _ _ h => h) (Or.inl ⟨by rfl, ?_⟩) (by assumption) ?_
  · intro w' hS; go_simp; try with_reducible rfl
  try simp [Act.put]
  refine wpAnyH_take (i := 17) (v := (.bool true)) rfl (by kernel_rfl) (by kernel_rfl) (by kernel_rfl) (fun _ _ _ h => h) (Or.inl ⟨by rfl, ?_⟩) (by assumption) ?_
  · intro w' hS; go_simp; try with_reducible rfl
  try simp [Act.put]
  refine wpAnyH_take (i := 18) (v := (.agg (blockS xL).cs.toArray)) rfl (by kernel_rfl) (by kernel_rfl) (by kernel_rfl) (fun _ _ _ h => h) (Or.inl ⟨by rfl, ?_⟩) (by assumption) ?_
  · intro w' hS
    exact ex_ldS (.tmp 5) rfl gs (blockS xL) rfl hS.sec
  try simp [Act.put]
  refine wpAnyH_take (i := 19) (v := (.agg (blockS xL).cs.toArray)) rfl (by kernel_rfl) (by kernel_rfl) (by kernel_rfl) (fun _ _ _ h => h) (Or.inl ⟨by rfl, ?_⟩) (by assumption) ?_
  · intro w' hS
    exact ex_buildX rfl
  try simp [Act.put]
  refine wpAnyH_take (i := 20) (v := (.bool true)) rfl (by kernel_rfl) (by kernel_rfl) (by kernel_rfl) (fun _ _ _ h => h) (Or.inl ⟨by rfl, ?_⟩) (by assumption) ?_
  · intro w' hS
    exact (ex_eqS (.tmp 51) (.tmp 52) rfl (blockS xL) (blockS xL) rfl rfl).trans (by rw [(blockS xL).same_self])
  try simp [Act.put]
  refine wpAnyH_take (i := 21) (v := (.bool true)) rfl (by kernel_rfl) (by kernel_rfl) (by kernel_rfl) (fun _ _ _ h => h) (Or.inl ⟨by rfl, ?_⟩) (by assumption) ?_
  · intro w' hS; go_simp; try with_reducible rfl
  try simp [Act.put]
  refine wpAnyH_take (i := 22) (v := (.bool true)) rfl (by kernel_rfl) (by kernel_rfl) (by kernel_rfl) (fun _ _ _ h => h) (Or.inl ⟨by rfl, ?_⟩) (by assumption) ?_
  · intro w' hS; go_simp; try with_reducible rfl
  try simp [Act.put]
  refine wpAnyH_take (i := 23) (v := (.int .i64 0)) rfl (by kernel_rfl) (by kernel_rfl) (by kernel_rfl) (fun _ _ _ h => h) (Or.inl ⟨by rfl, ?_⟩) (by assumption) ?_
  · intro w' hS; go_simp; try with_reducible rfl
  try simp [Act.put]
  refine wpAnyH_take (i := 24) (v := (.bool true)) rfl (by kernel_rfl) (by kernel_rfl) (by kernel_rfl) (fun _ _ _ h => h) (Or.inl ⟨by rfl, ?_⟩) (by assumption) ?_
  · intro w' hS; go_simp; try with_reducible rfl
  try simp [Act.put]
  refine wpAnyH_take (i := 25) (v := (.bool true)) rfl (by kernel_rfl) (by kernel_rfl) (by kernel_rfl) (fun _ _ _ h => h) (Or.inl ⟨by rfl, ?_⟩) (by assumption) ?_
  · intro w' hS; go_simp; try with_reducible rfl
  try simp [Act.put]
  refine wpAnyH_take (i := 26) (v := (.bool true)) rfl (by kernel_rfl) (by kernel_rfl) (by kernel_rfl) (fun _ _ _ h => h) (Or.inl ⟨by rfl, ?_⟩) (by assumption) ?_
  · intro w' hS; go_simp; try with_reducible rfl
  try simp [Act.put]
  refine wpAnyH_take (i := 27) (v := (ptq hole0)) rfl (by kernel_rfl) (by kernel_rfl) (by kernel_rfl) (fun _ _ _ h => h) (Or.inl ⟨by rfl, ?_⟩) (by assumption) ?_
  · intro w' hS
    exact ex_ldP (.tmp 7) rfl gh 0 0 0 rfl hS.hole
  try simp [Act.put]
  refine wpAnyH_take (i := 28) (v := (ptq hole0)) rfl (by kernel_rfl) (by kernel_rfl) (by kernel_rfl) (fun _ _ _ h => h) (Or.inl ⟨by rfl, ?_⟩) (by assumption) ?_
  · intro w' hS
    go_simp; first | with_reducible rfl | exact ⟨rfl, rfl, rfl⟩
  try simp [Act.put]
  refine wpAnyH_take (i := 29) (v := (.bool true)) rfl (by kernel_rfl) (by kernel_rfl) (by kernel_rfl) (fun _ _ _ h => h) (Or.inl ⟨by rfl, ?_⟩) (by assumption) ?_
  · intro w' hS
    exact (ex_eqPt (.tmp 60) (.tmp 61) rfl hole0 hole0 rfl rfl).trans (by rw [sameQ_self])
  try simp [Act.put]
  refine wpAnyH_take (i := 30) (v := (.bool true)) rfl (by kernel_rfl) (by kernel_rfl) (by kernel_rfl) (fun _ _ _ h => h) (Or.inl ⟨by rfl, ?_⟩) (by assumption) ?_
  · intro w' hS; go_simp; try with_reducible rfl
  try simp [Act.put]
  refine wpAnyH_take (i := 31) (v := (.bool true)) rfl (by kernel_rfl) (by kernel_rfl) (by kernel_rfl) (fun _ _ _ h => h) (Or.inl ⟨by rfl, ?_⟩) (by assumption) ?_
  · intro w' hS; go_simp; try with_reducible rfl
  try simp [Act.put]
  refine wpAnyH_take (i := 32) (v := (.slice (some ⟨b, off, none⟩) 3 d7)) rfl (by kernel_rfl) (by kernel_rfl) (by kernel_rfl) (fun _ _ _ h => h) (Or.inl ⟨by rfl, ?_⟩) (by assumption) ?_
  · intro w' hS; go_simp; try with_reducible rfl
  try simp [Act.put]
  refine wpAnyH_take (i := 33) (v := (.int .i64 3)) rfl (by kernel_rfl) (by kernel_rfl) (by kernel_rfl) (fun _ _ _ h => h) (Or.inl ⟨by rfl, ?_⟩) (by assumption) ?_
  · intro w' hS; go_simp; try with_reducible rfl
  try simp [Act.put]
  refine wpAnyH_take (i := 34) (v := (.bool true)) rfl (by kernel_rfl) (by kernel_rfl) (by kernel_rfl) (fun _ _ _ h => h) (Or.inl ⟨by rfl, ?_⟩) (by assumption) ?_
  · intro w' hS; go_simp; try with_reducible rfl
  try simp [Act.put]
  refine wpAnyH_take (i := 35) (v := (.bool true)) rfl (by kernel_rfl) (by kernel_rfl) (by kernel_rfl) (fun _ _ _ h => h) (Or.inl ⟨by rfl, ?_⟩) (by assumption) ?_
  · intro w' hS; go_simp; try with_reducible rfl
  try simp [Act.put]
  refine wpAnyH_take (i := 36) (v := (.bool true)) rfl (by kernel_rfl) (by kernel_rfl) (by kernel_rfl) (fun _ _ _ h => h) (Or.inl ⟨by rfl, ?_⟩) (by assumption) ?_
  · intro w' hS; go_simp; try with_reducible rfl
  try simp [Act.put]
  refine wpAnyH_take (i := 37) (v := (.slice (some ⟨b, off, none⟩) 3 d7)) rfl (by kernel_rfl) (by kernel_rfl) (by kernel_rfl) (fun _ _ _ h => h) (Or.inl ⟨by rfl, ?_⟩) (by assumption) ?_
  · intro w' hS; go_simp; try with_reducible rfl
  try simp [Act.put]
  refine wpAnyH_take (i := 38) (v := (.pointer (some ⟨b, off + 6, none⟩))) rfl (by kernel_rfl) (by kernel_rfl) (by kernel_rfl) (fun _ _ _ h => h) (Or.inl ⟨by rfl, ?_⟩) (by assumption) ?_
  · intro w' hS; go_simp; try with_reducible rfl
  try simp [Act.put]
  refine wpAnyH_take (i := 39) (v := (ptq (ra, rb, rc))) rfl (by kernel_rfl) (by kernel_rfl) (by kernel_rfl) (fun _ _ _ h => h) (Or.inl ⟨by rfl, ?_⟩) (by assumption) ?_
  · intro w' hS
    exact ex_ldPo (.tmp 71) rfl b (off + 6) ra rb rc rfl hS.c0 hS.c1 hS.c2
  try simp [Act.put]
  refine wpAnyH_take (i := 40) (v := (ptq (ra, rb, rc))) rfl (by kernel_rfl) (by kernel_rfl) (by kernel_rfl) (fun _ _ _ h => h) (Or.inl ⟨by rfl, ?_⟩) (by assumption) ?_
  · intro w' hS
    exact ex_ldP (.tmp 2) rfl gq ra rb rc rfl hS.root
  try simp [Act.put]
  refine wpAnyH_take (i := 41) (v := (.bool true)) rfl (by kernel_rfl) (by kernel_rfl) (by kernel_rfl) (fun _ _ _ h => h) (Or.inl ⟨by rfl, ?_⟩) (by assumption) ?_
  · intro w' hS
    exact (ex_eqPt (.tmp 72) (.tmp 73) rfl (ra, rb, rc) (ra, rb, rc) rfl rfl).trans (by rw [sameQ_self])
  try simp [Act.put]
  refine wpAnyH_take (i := 42) (v := (.bool true)) rfl (by kernel_rfl) (by kernel_rfl) (by kernel_rfl) (fun _ _ _ h => h) (Or.inl ⟨by rfl, ?_⟩) (by assumption) ?_
  · intro w' hS; go_simp; try with_reducible rfl
  try simp [Act.put]
  refine wpAnyH_take (i := 43) (v := (.bool true)) rfl (by kernel_rfl) (by kernel_rfl) (by kernel_rfl) (fun _ _ _ h => h) (Or.inl ⟨by rfl, ?_⟩) (by assumption) ?_
  · intro w' hS; go_simp; try with_reducible rfl
  try simp [Act.put]
  refine wpAnyH_done (by kernel_rfl) ?_ _
  clear hHeld
  go_wp2_with fail
  go_ret
  exact ⟨rfl, HMb.out.below⟩
end
end
section
open Go.RowKit

theorem below_al (w : World) (o : Obj) : Below w.heap.size w (w.alloc o) := (Below.refl _ _).alloc (Nat.le_refl _) _
section
variable {At : World → (Nat → Prop) → Nat → Pw → Prop}
set_option maxHeartbeats 2000000 in
theorem treeNames_any (L : TreeCalls At) (w : World) : Calls Try.prog 3 #[] w fun e w' => e = .returned (.bool true) ∧ Below w.heap.size w w' := by
  have HM := Lib.hid (fun W => L.made 64 W (by omega))
  have hok0 := Lib.hid (good_zero 64 (by omega) (by omega)).ok
  have hz : ∀ w, Sem.run Try.prog (zeroValue 23) w = .ok (.agg zsec.cs.toArray) w := zeroSec
  have hbs : ∀ w, (Instr.build 23 #[]).run Try.prog w = .ok (.agg zsec.cs.toArray) w := buildZ
  have hsame : Hid (zsec.same zsec = true) := zsec.same_self
  go_enter Try.func3, Try.ntmps3
  go_wp2_with fail
  refine Calls.mono (HM.out _) ?_
  rintro e w1 ⟨O1, g, rfl, h1, hO1, hb1⟩
  have m1 := HasT.first (Below.refl _ _) h1 hO1 hb1
  have HG := Lib.hid (show Calls Try.prog 8 #[.pointer (some ⟨g, 0, none⟩), ptv 0 0 0, .int .i64 63] w1 _ from L.get (root := hole0) 63 (by omega) m1.at_ hok0.out (tree_zero _))
  have HM1 := Lib.hid m1
  clear h1 hO1 hb1 hok0 m1
  go_wp2_with fail
  refine Calls.mono HG.out ?_
  rintro e w2 ⟨O2, rfl, h2, s2⟩
  have HB2 := Lib.hid (HM1.out.step h2 s2).below
  have hn2 : Hid (Blk (w2.alloc (.cells zsec.cs.toArray 23)) w2.heap.size 23 zsec.cs.toArray) := Blk.new _ _ _
  clear HG HM1 h2 s2
  go_upto_region 2 with ((with_reducible refine st_sec rfl _ _ rfl w2.heap.size 0 zsec rfl rfl hn2.out.secHas ?_); intro w3 hw3)
  have HB3 : Hid (Below w.heap.size w w3 ∧ Blk w3 w2.heap.size 23 zsec.cs.toArray) := by
    rw [hw3.out]
    exact ⟨Below.setCells _ HB2.out.size _ _ (HB2.out.alloc HB2.out.size _), hn2.out.secAll _⟩
  clear hw3 HB2 hn2
  generalize w2.heap.size = gs at *
  go_wp2_with fail
  refine Calls.mono (HM.out _) ?_
  rintro e w4 ⟨O4, g4, rfl, h4, hO4, hb4⟩
  have m4 := HasT.first HB3.out.1 h4 hO4 hb4
  have HG := Lib.hid (show Calls Try.prog 8 #[.pointer (some ⟨g4, 0, none⟩), ptv 0 0 0, .int .i64 64] w4 _ from L.getNo (root := hole0) 64 (by unfold I64; omega) (by omega) m4.at_ hole_ok8)
  have HM4 := Lib.hid (And.intro m4 (HB3.out.2.below hb4 HB3.out.2.lt))
  have HOO : Hid (¬ O4 gs) := Lib.hid (fun ho => by have h := hO4 gs ho; have := HB3.out.2.lt; omega)
  clear h4 hO4 hb4 m4 HB3
  go_wp2_with fail
  refine Calls.mono HG.out ?_
  rintro e w5 ⟨O5, rfl, h5, s5⟩
  have HB5 := Lib.hid (And.intro (HM4.out.1.step h5 s5).below (HM4.out.2.chg s5.chg HOO.out))
  have hn5 : Hid (Blk (w5.alloc (.cells zsec.cs.toArray 23)) w5.heap.size 23 zsec.cs.toArray) := Blk.new _ _ _
  clear HG HM4 HOO h5 s5 HM
  go_upto_region 3 with ((with_reducible refine st_sec rfl _ _ rfl w5.heap.size 0 zsec rfl rfl hn5.out.secHas ?_); intro w6 hw6)
  have HB6 : Hid (Below w.heap.size w w6 ∧ Blk w6 gs 23 zsec.cs.toArray) := by
    rw [hw6.out]
    exact ⟨Below.setCells _ HB5.out.1.size _ _ (HB5.out.1.alloc HB5.out.1.size _), HB5.out.2.below (B := w5.heap.size) (Below.setCells _ (Nat.le_refl _) _ _ (below_al _ _)) HB5.out.2.lt⟩
  clear hw6 HB5 hn5
  have HT := Lib.hid (treeAlive_any L w6)
  go_wp2_with (first
    | (go_at_call 10; (with_reducible refine Calls.mono HT.out ?_); rintro e w7 ⟨rfl, hb7⟩; have HB7 := Lib.hid (And.intro (HB6.out.1.trans (hb7.mono HB6.out.1.size)) (HB6.out.2.below hb7 HB6.out.2.lt)); clear hb7 HT)
    | (refine wpList_val (by rfl) _ (ex_ldS (.tmp 1) rfl gs zsec rfl HB7.out.2) ?_)
    | (refine wpList_val (by rfl) _ (ex_eqS (.tmp 23) (.tmp 24) rfl zsec zsec rfl rfl) ?_; rw [hsame.out]))
  go_ret
  exact ⟨rfl, HB7.out.1⟩
end
end
section
open Go.RowKit

/-- What a change of a tree leaves, whatever it was. -/
structure Change (At : World → (Nat → Prop) → Nat → Pw → Prop) (n : Nat) (w w' : World) (O O' : Nat → Prop) (g : Nat) (P P' : Pw) (root' : PtrV) (old k : List PtrV) (B : Option Addr) : Prop where
  at_ : At w' O' g P'
  row : RdF w w' O' B (pqs k)
  step : Step w w' O O'
  good : ∃ F S T, Good n P' root' F S T (old ++ k)
  st : P'.st = P.st
  N : P'.N ≤ P.N + 3
  cnt : P.m.count ≤ P'.m.count + 3
  len : k.length ≤ 3
  tot : P'.m.tot = P.m.tot
theorem rdF_nil {w w' : World} {O : Nat → Prop} {B : Option Addr} : RdF w w' O B (pqs []) := ⟨⟨Rd.nil, fun _ _ _ h => absurd h (by simp [pqs])⟩, fun _ _ _ h => absurd h (by simp [pqs])⟩
theorem old_len (F : P8) (S : Nat → P8) (root : PtrV) (i : Nat) : (oldL F S root i).length ≤ 3 := by
  have := List.length_filter_le (fun q : PtrV => !holeF q.1 q.2.1 q.2.2) [blkQ S i, F.at_ (i / 8), root]
  exact this
section
variable {At : World → (Nat → Prop) → Nat → Pw → Prop} {n : Nat} {w : World} {O : Nat → Prop} {g : Nat} {P : Pw} {root : PtrV} {F : P8} {S : Nat → P8} {T : Nat → Sec} {old : List PtrV}
theorem set_whatever (L : TreeCalls At) (h : Good n P root F S T old) (ha : At w O g P) (hN : P.N ≤ 900000) (hc : 3 ≤ P.m.count) (i : Int) (hi : I64 i) (A : Option Addr) (c : Nat) (l : List UInt8) (hr : RdA w O A (bys l)) (hlc : l.length ≤ c) (hl : l.length ≤ 140737488355328) :
    Calls Try.prog 12 #[.pointer (some ⟨g, 0, none⟩), ptq root, .int .i64 i, .slice A l.length c] w fun e w' => ∃ O' P' root' k B d code, e = .returned (.tuple #[ptq root', .slice B k.length d, .int .i64 code]) ∧ Change At n w w' O O' g P P' root' old k B := by
  have hrt := (h.tree.top.right h.ok).2
  by_cases hin : 0 ≤ i ∧ i < 64
  · obtain ⟨j, rfl⟩ := Int.eq_ofNat_of_zero_le hin.1
    have hj : j < 64 := by omega
    by_cases hlen : l.length ≤ 128
    · obtain ⟨F', S', k1, k2, k3, k4, k5, _⟩ := h.set hj hlen hc
      refine (L.set j A c l hj ha h.ok h.tree hr hlen hlc hc hN).mono ?_
      rintro e w' ⟨O', B, d, rfl, h1, h2, h3⟩
      exact ⟨O', _, _, _, B, d, _, rfl, h1, h2, h3, ⟨F', S', _, k1⟩, k2, k4, k5, old_len F S root j, k3⟩
    · refine (L.setLong j A c l hj ha hrt hr (by omega) hl).mono ?_
      rintro e w' ⟨O', B, d, rfl, h1, h3⟩
      exact ⟨O', P, root, [], B, d, _, rfl, h1, rdF_nil, h3, ⟨F, S, T, by rw [List.append_nil]; exact h⟩, rfl, by omega, by omega, by simp, rfl⟩
  · refine (L.setNo i A c l hi hin ha hrt hr hl).mono ?_
    rintro e w' ⟨O', B, d, rfl, h1, h3⟩
    exact ⟨O', P, root, [], B, d, _, rfl, h1, rdF_nil, h3, ⟨F, S, T, by rw [List.append_nil]; exact h⟩, rfl, by omega, by omega, by simp, rfl⟩
theorem trim_whatever (L : TreeCalls At) (h : Good n P root F S T old) (ha : At w O g P) (hN : P.N ≤ 900000) (hc : 2 ≤ P.m.count) (i : Int) (hi : I64 i) :
    Calls Try.prog 11 #[.pointer (some ⟨g, 0, none⟩), ptq root, .int .i64 i] w fun e w' => ∃ O' P' root' k B d code, e = .returned (.tuple #[ptq root', .slice B k.length d, .int .i64 code]) ∧ Change At n w w' O O' g P P' root' old k B := by
  have hrt := (h.tree.top.right h.ok).2
  by_cases hin : 0 ≤ i ∧ i < 64
  · obtain ⟨j, rfl⟩ := Int.eq_ofNat_of_zero_le hin.1
    have hj : j < 64 := by omega
    obtain ⟨hn, F', S', k1, k2, k3, k4, k5, _⟩ := h.trim hj hc
    refine (L.trim j hj ha h.ok h.tree hn hN).mono ?_
    rintro e w' ⟨O', B, d, rfl, h1, h2, h3⟩
    exact ⟨O', _, _, _, B, d, _, rfl, h1, h2, h3, ⟨F', S', _, k1⟩, k2, by omega, by omega, (by
      unfold trimO
      split
      · simp
      · exact old_len F S root j), k3⟩
  · refine (L.trimNo i hi hin ha hrt).mono ?_
    rintro e w' ⟨O', B, d, rfl, h1, h3⟩
    exact ⟨O', P, root, [], B, d, _, rfl, h1, rdF_nil, h3, ⟨F, S, T, by rw [List.append_nil]; exact h⟩, rfl, by omega, by omega, by simp, rfl⟩
end
/-! ### append([]byte{}, l...) in a region that draws its order -/
theorem step_copyB {ops : Array Oper} {o : Oper} {a : Act} {w : World} {K : Act → World → Prop} {Q : Exit → Act → World → Prop} {E : Prop} (hgd : o.guard = none) (s x : Nat)
    (ho : o.op = .call { callee := .builtin .append, args := #[.tmp s, .tmp x], argTypes := #[39, 39] })
    (base gE : Nat) (hs : a.eval (.tmp s) = .slice (some ⟨gE, 0, none⟩) 0 0) (hown : OwnB w base (.slice (some ⟨gE, 0, none⟩) 0 0) []) (B : Nat) (A : Option Addr) (m c : Nat) (t : List UInt8)
    (hx : a.eval (.tmp x) = .slice A m c) (hm : t.length = m) (hr : Rd w B A (bys t)) (hn : m ≤ 140737488355328) (hbase : base ≤ w.heap.size)
    (h : ∀ A' c' w', OwnB w' base (.slice A' m c') t → m ≤ c' → w.grownBy w' (some gE) → K (a.put o.dst (.slice A' m c')) w') :
    if Region.wanted o (yielded ops a.tmps) = true then Oper.wp Try.prog o a w K Q else E := by
  have hw : Region.wanted o (yielded ops a.tmps) = true := by simp [Region.wanted, hgd]
  rw [if_pos hw]
  subst hm
  obtain ⟨i0, hi0, hz0, hz2, hz3⟩ := info_parts infoByte
  rcases Nat.eq_zero_or_pos t.length with h0 | h0
  · obtain rfl : t = [] := List.eq_nil_of_length_eq_zero h0
    have hrun := run_app_none (P := Try.prog) w base 39 o.type 5 i0 1 Try.underlying39 hi0 _ 0 (bys []) hown A c
    unfold Oper.wp execOp
    simp only [ho, resolve, invoke, builtin, Sem.run_bind, Sem.run_pure, Result.andThen_ok, List.map_toArray, List.map_cons, List.map_nil, hs, hx, List.length_nil, hrun]
    exact h (some ⟨gE, 0, none⟩) 0 w hown (Nat.le_refl _) ⟨rfl, rfl, rfl, Nat.le_refl _, fun _ _ _ => rfl⟩
  · obtain ⟨b, off, rfl, _, _⟩ := hr (by rw [bys_len]; exact h0)
    refine wp_append_lies w (.tmp s) (.tmp x) _ ho base 5 i0 _ 1 1 Try.underlying39 hi0 hz0 hz2 hz3 rfl (by omega) _ 0 (bys []) hs hown ⟨b, off, none⟩ t.length c (bys t) hx (by rw [bys_len, Nat.mul_one]) (rd_add hr) bys_one h0 (by simp only [maxLen]; omega) (by omega) hbase w.heap.size rfl ?_
    intro g cap w' h1 h2 _ _
    rw [Nat.zero_add] at h1 ⊢
    have h3 : OwnB w' base (.slice (some ⟨g, 0, none⟩) t.length cap) t := h1
    obtain ⟨_, c', e, _, hc⟩ := own_rd h3
    simp only [Value.slice.injEq, true_and] at e
    exact h (some ⟨g, 0, none⟩) cap w' h3 (by rw [e.2]; exact hc) h2
theorem own_rdA {w : World} {base m c : Nat} {A : Option Addr} {t : List UInt8} {O : Nat → Prop} (h : OwnB w base (.slice A m c) t) (hO : ∀ k, O k → k < base) : RdA w O A (bys t) := by
  obtain ⟨A', c', e, hX, _⟩ := own_rd h
  simp only [Value.slice.injEq] at e
  obtain ⟨rfl, _, _⟩ := e
  refine ⟨hX, fun b off e hp ho => ?_⟩
  rw [bys_len] at hp
  obtain ⟨g, cap, e2, hN, _⟩ := own_form h hp
  rw [e] at e2
  simp only [Value.slice.injEq, Option.some.injEq, Addr.mk.injEq] at e2
  have := hO b ho
  omega
end
section
open Go.RowKit

theorem sameQ_iff' {p q : PtrV} : sameQ p q = true ↔ p = q := by
  obtain ⟨a, b, c⟩ := p
  obtain ⟨a', b', c'⟩ := q
  unfold sameQ
  simp [and_assoc]
theorem ex_nePt {o : Oper} {a : Act} {w : World} (x y : Operand) (ho : o.op = .binOp .neq 32 x y 32) (p q : PtrV) (hx : a.eval x = ptq p) (hy : a.eval y = ptq q) :
    (execOp a.eval o).run Try.prog w = .ok (.value (.bool (!sameQ p q))) w := by
  have hg : ∀ x y w, (eqGuard .neq 32 x y (ptq p) (ptq q)).run Try.prog w = .ok () w := fun x y w => run_eqGuard_agg w _ _ _ _ _ _ (by kernel_rfl)
  have hn : (binOp .neq 32 (ptq p) (ptq q)).run Try.prog w = .ok (.bool (!sameQ p q)) w := by
    have h := run_eqP p.1 p.2.1 p.2.2 q.1 q.2.1 q.2.2 w
    rw [run_eql_struct] at h
    rw [run_neq_struct]
    show ((Op.equalIn 10000 32 (ptq p) (ptq q)).run Try.prog w).andThen _ = _
    revert h
    generalize (Op.equalIn 10000 32 (.agg #[.int .i64 p.1, .int .u64 p.2.1, .int .u32 p.2.2]) (.agg #[.int .i64 q.1, .int .u64 q.2.1, .int .u32 q.2.2])).run Try.prog w = r
    intro h
    cases r with
    | ok b w' =>
      simp only [Result.andThen_ok, Result.ok.injEq, Value.bool.injEq] at h ⊢
      exact ⟨by rw [h.1]; rfl, h.2⟩
    | halt x w' => simp [Result.andThen] at h
  unfold execOp
  simp only [ho, hx, hy, hg, hn, Sem.run_bind, Sem.run_pure, Result.andThen_ok]
set_option maxHeartbeats 1000000 in
theorem qsame_any (A A' : Option Addr) (c c' : Nat) (l m : List PtrV) (w : World) (hs : Rd w w.heap.size A (pqs l)) (ht : Rd w w.heap.size A' (pqs m)) (hl : l.length ≤ 4503599627370496) :
    Calls Try.prog 22 #[.slice A l.length c, .slice A' m.length c'] w fun e w' => e = .returned (.bool (decide (l = m))) ∧ Below w.heap.size w w' := by
  by_cases hlen : l.length = m.length
  · have hge : m.length ≤ 4503599627370496 := by omega
    have hn : ((m.length : Int) != (m.length : Int)) = false := by simp
    have hml : (m.length : Int) ≤ 4503599627370496 := by omega
    go_enter Try.func22, Try.ntmps22
    rw [hlen]
    have Hlen := Lib.hid hlen
    have HS := Lib.hid hs
    have HT := Lib.hid ht
    clear hlen hs ht hl hge
    go_wp2_with fail
    go_loopw [13] (fun i wr => ∃ (k : Nat), k ≤ m.length ∧ i = .int .i64 k ∧ l.take k = m.take k ∧ Below w.heap.size w wr) (fun i _ => m.length - (intOf i).toNat)
    case atStart => exact ⟨0, by omega, rfl, rfl, Below.refl _ _⟩
    case round =>
      obtain ⟨k, hk, rfl, hr, hb⟩ := hrel
      have HB := Lib.hid hb
      clear hb
      by_cases hlt : k < m.length
      · have hlt' : k < l.length := by have := Hlen.out; omega
        obtain ⟨b, off, rfl, hbl, c0, c1, c2⟩ := pq_at HS.out k hlt'
        obtain ⟨b', off', rfl, hbl', d0, d1, d2⟩ := pq_at HT.out k hlt
        have HR1 : Hid (l[k] = m[k] → l.take (k + 1) = m.take (k + 1)) := fun h => take_more hlt' hlt hr h
        have HR2 : Hid (l[k] ≠ m[k] → l ≠ m) := fun h => take_ne hlt' hlt h
        have HBD := Lib.hid HB.out.drew
        have hS1 : Hid ((fun w' => (w'.cell? ⟨b, off + k * 3, none⟩ = some (.int .i64 l[k].1) ∧ w'.cell? ⟨b, off + k * 3 + 1, none⟩ = some (.int .u64 l[k].2.1) ∧ w'.cell? ⟨b, off + k * 3 + 2, none⟩ = some (.int .u32 l[k].2.2)) ∧
            (w'.cell? ⟨b', off' + k * 3, none⟩ = some (.int .i64 m[k].1) ∧ w'.cell? ⟨b', off' + k * 3 + 1, none⟩ = some (.int .u64 m[k].2.1) ∧ w'.cell? ⟨b', off' + k * 3 + 2, none⟩ = some (.int .u32 m[k].2.2))) wr.drew) :=
          ⟨⟨(HBD.out.cell (p := ⟨b, off + k * 3, none⟩) hbl).trans c0, (HBD.out.cell (p := ⟨b, off + k * 3 + 1, none⟩) hbl).trans c1, (HBD.out.cell (p := ⟨b, off + k * 3 + 2, none⟩) hbl).trans c2⟩,
           ⟨(HBD.out.cell (p := ⟨b', off' + k * 3, none⟩) hbl').trans d0, (HBD.out.cell (p := ⟨b', off' + k * 3 + 1, none⟩) hbl').trans d1, (HBD.out.cell (p := ⟨b', off' + k * 3 + 2, none⟩) hbl').trans d2⟩⟩
        have hki : (k : Int) < m.length := by omega
        have HK := Lib.hid hlt
        clear HS HT c0 c1 c2 d0 d1 d2 hr hbl hbl'
        generalize l[k] = x at *
        generalize m[k] = y at *
        clear hlt hlt' hk
        obtain ⟨bs, hbs⟩ : ∃ bs, bs = sameQ x y := ⟨_, rfl⟩
        have HBS := Lib.hid hbs
        clear hbs
        go_wp2_with fail
        refine wp_region_held_drew (S := (fun w' => (w'.cell? ⟨b, off + k * 3, none⟩ = some (.int .i64 x.1) ∧ w'.cell? ⟨b, off + k * 3 + 1, none⟩ = some (.int .u64 x.2.1) ∧ w'.cell? ⟨b, off + k * 3 + 2, none⟩ = some (.int .u32 x.2.2)) ∧
            (w'.cell? ⟨b', off' + k * 3, none⟩ = some (.int .i64 y.1) ∧ w'.cell? ⟨b', off' + k * 3 + 1, none⟩ = some (.int .u64 y.2.1) ∧ w'.cell? ⟨b', off' + k * 3 + 2, none⟩ = some (.int .u32 y.2.2)))) (by kernel_rfl) hS1.out (fun hHeld => ?_)
        clear hS1 HB
        generalize wr.drew = w19 at *
        refine wpAnyH_take (i := 0) (v := (.slice (some ⟨b, off, none⟩) m.length c)) rfl (by kernel_rfl) (by kernel_rfl) (by kernel_rfl) (fun _ _ _ h => h) (Or.inl ⟨by rfl, ?_⟩) (by assumption) ?_
        · intro w' hS; go_simp; try with_reducible rfl
        try simp [Act.put]
        refine wpAnyH_take (i := 1) (v := (.int .i64 (k : Int))) rfl (by kernel_rfl) (by kernel_rfl) (by kernel_rfl) (fun _ _ _ h => h) (Or.inl ⟨by rfl, ?_⟩) (by assumption) ?_
        · intro w' hS; go_simp; try with_reducible rfl
        try simp [Act.put]
        refine wpAnyH_take (i := 2) (v := (.pointer (some ⟨b, off + k * 3, none⟩))) rfl (by kernel_rfl) (by kernel_rfl) (by kernel_rfl) (fun _ _ _ h => h) (Or.inl ⟨by rfl, ?_⟩) (by assumption) ?_
        · intro w' hS; go_simp; try with_reducible rfl
        try simp [Act.put]
        refine wpAnyH_take (i := 3) (v := (ptq x)) rfl (by kernel_rfl) (by kernel_rfl) (by kernel_rfl) (fun _ _ _ h => h) (Or.inl ⟨by rfl, ?_⟩) (by assumption) ?_
        · intro w' hS
          exact ex_ldPo (.tmp 18) rfl b (off + k * 3) x.1 x.2.1 x.2.2 rfl hS.1.1 hS.1.2.1 hS.1.2.2
        try simp [Act.put]
        refine wpAnyH_take (i := 4) (v := (.slice (some ⟨b', off', none⟩) m.length c')) rfl (by kernel_rfl) (by kernel_rfl) (by kernel_rfl) (fun _ _ _ h => h) (Or.inl ⟨by rfl, ?_⟩) (by assumption) ?_
        · intro w' hS; go_simp; try with_reducible rfl
        try simp [Act.put]
        refine wpAnyH_take (i := 5) (v := (.int .i64 (k : Int))) rfl (by kernel_rfl) (by kernel_rfl) (by kernel_rfl) (fun _ _ _ h => h) (Or.inl ⟨by rfl, ?_⟩) (by assumption) ?_
        · intro w' hS; go_simp; try with_reducible rfl
        try simp [Act.put]
        refine wpAnyH_take (i := 6) (v := (.pointer (some ⟨b', off' + k * 3, none⟩))) rfl (by kernel_rfl) (by kernel_rfl) (by kernel_rfl) (fun _ _ _ h => h) (Or.inl ⟨by rfl, ?_⟩) (by assumption) ?_
        · intro w' hS; go_simp; try with_reducible rfl
        try simp [Act.put]
        refine wpAnyH_take (i := 7) (v := (ptq y)) rfl (by kernel_rfl) (by kernel_rfl) (by kernel_rfl) (fun _ _ _ h => h) (Or.inl ⟨by rfl, ?_⟩) (by assumption) ?_
        · intro w' hS
          exact ex_ldPo (.tmp 22) rfl b' (off' + k * 3) y.1 y.2.1 y.2.2 rfl hS.2.1 hS.2.2.1 hS.2.2.2
        try simp [Act.put]
        refine wpAnyH_take (i := 8) (v := (.bool (!bs))) rfl (by kernel_rfl) (by kernel_rfl) (by kernel_rfl) (fun _ _ _ h => h) (Or.inl ⟨by rfl, ?_⟩) (by assumption) ?_
        · intro w' hS
          exact (ex_nePt (.tmp 19) (.tmp 23) rfl x y rfl rfl).trans (by rw [HBS.out])
        try simp [Act.put]
        refine wpAnyH_done (by kernel_rfl) ?_ _
        clear hHeld
        cases bs with
        | true =>
          have HE : Hid (x = y) := sameQ_iff'.1 HBS.out.symm
          go_wp2_with fail
          go_roundw
          case rel => exact ⟨k + 1, HK.out, by go_num, HR1.out HE.out, HBD.out⟩
          case measure => have := HK.out; simp [intOf]; omega
        | false =>
          have HE : Hid (decide (l = m) = false) := decide_eq_false (HR2.out fun h => by have := HBS.out; rw [sameQ_iff'.2 h] at this; cases this)
          go_wp2_with fail
          go_ret
          exact ⟨ret_bool HE.out.symm, HBD.out⟩
      · obtain rfl : k = m.length := by omega
        have HE : Hid (decide (l = m) = true) := by
          refine decide_eq_true ?_
          rw [List.take_of_length_le (by have := Hlen.out; omega), List.take_of_length_le (Nat.le_refl _)] at hr
          exact hr
        clear hr hk hlt
        go_wp2_with fail
        go_ret
        exact ⟨ret_bool HE.out.symm, HB.out⟩
  · have hn : ((l.length : Int) != (m.length : Int)) = true := by rw [bne_iff_ne]; omega
    have HE : Hid (decide (l = m) = false) := decide_eq_false fun h => hlen (by rw [h])
    clear hlen hs ht
    go_enter Try.func22, Try.ntmps22
    go_wp2_with fail
    go_ret
    exact ⟨ret_bool HE.out.symm, Below.refl _ _⟩

/-! ### Acts in memory -/
def zta : TAct := ⟨0, 0, [], none, 0, by unfold I64; omega, by unfold I64; omega⟩
theorem infoTA : (Try.prog.info? 41).map (fun i => (i.zero, i.size)) = some (some (.agg zta.cs.toArray), 3) := by kernel_rfl
theorem sizeTA : (Try.prog.info? 41).map (·.size) = some 3 := by kernel_rfl
theorem zeroTA (w : World) : Sem.run Try.prog (zeroValue 41) w = .ok (.agg zta.cs.toArray) w := by
  obtain ⟨i, hi⟩ : ∃ i, Try.prog.info? 41 = some i := info_of_underlying Try.underlying41
  have h := infoTA
  rw [hi] at h
  simp only [Option.map_some, Option.some.injEq, Prod.mk.injEq] at h
  simp [zeroValue, typeInfo, hi, h.1]
theorem ld_ta {ops : Array Oper} {rest : List Oper} {o : Oper} {a : Act} {w : World} {Q : Exit → Act → World → Prop} (hgd : o.guard = none) (x : Operand) (ho : o.op = .load 41 x)
    (b k : Nat) (s : TAct) (hx : a.eval x = .pointer (some ⟨b, k, none⟩)) (hr : w.rangeAt b k s.cs)
    (h : wpList Try.prog ops Q rest (a.put o.dst (.agg s.cs.toArray)) w) : wpList Try.prog ops Q (o :: rest) a w :=
  wpList_load_mid hgd _ x ho b k hx s.cs _ hr Try.underlying41 rfl sizeTA h
theorem st_ta {ops : Array Oper} {rest : List Oper} {o : Oper} {a : Act} {w : World} {Q : Exit → Act → World → Prop} (hgd : o.guard = none) (x y : Operand) (ho : o.op = .store 41 x y)
    (b k : Nat) (s : TAct) (hx : a.eval x = .pointer (some ⟨b, k, none⟩)) (hy : a.eval y = .agg s.cs.toArray) (ht : w.there b k 3)
    (h : ∀ w', Hid (w' = w.setCells b k s.cs) → wpList Try.prog ops Q rest (a.put o.dst undef) w') : wpList Try.prog ops Q (o :: rest) a w :=
  wpList_store_mid hgd _ x y ho b k s.cs.toArray hx hy ht sizeTA (all_one s.one) (h _ rfl)
theorem new_ta {w w' : World} {x : TAct} (h : w' = (w.alloc (.cells zta.cs.toArray 41)).setCells w.heap.size 0 x.cs) : Blk w' w.heap.size 41 x.cs.toArray ∧ Below w.heap.size w w' := by
  subst h
  exact ⟨(Blk.new w 41 zta.cs.toArray).setAll x.cs rfl, Below.setCells _ (Nat.le_refl _) _ _ ((Below.refl _ _).alloc (Nat.le_refl _) _)⟩
theorem Blk.taHas {w : World} {g : Nat} (h : Blk w g 41 zta.cs.toArray) : w.there g 0 3 := h.there 0 3 (by simp [TAct.cs])
theorem Blk.taF {w : World} {g : Nat} {a : TAct} (h : Blk w g 41 a.cs.toArray) : w.cell? ⟨g, 0, none⟩ = some (.int .i64 a.k) ∧ w.cell? ⟨g, 1, none⟩ = some (.int .i64 a.n) ∧ w.cell? ⟨g, 2, none⟩ = some (.slice a.a a.l.length a.c) := ⟨h.cell 0, h.cell 1, h.cell 2⟩
/-! ### What stands in a loop over acts -/
structure SL (At : World → (Nat → Prop) → Nat → Pw → Prop) (n : Nat) (w wr : World) (O : Nat → Prop) (g gr : Nat) (P : Pw) (ra rb rc : Int) (old : List PtrV) (k : Nat) : Prop where
  has : HasT At w wr O g P
  good : ∃ F S T, Good n P (ra, rb, rc) F S T old
  box : BlkA wr O gr 32 (pcs ra rb rc)
  lo : w.heap.size ≤ gr
  st : P.st ≤ 1 + k
  N : P.N ≤ 3 * k
  cnt : P.m.count + 3 * k ≥ n
  tot : P.m.tot = n + 4
section
variable {At : World → (Nat → Prop) → Nat → Pw → Prop} {n : Nat} {w wr W W3 : World} {O O' : Nat → Prop} {g gr g11 : Nat} {P P' : Pw} {ra rb rc ra' rb' rc' : Int} {old kk : List PtrV} {k : Nat} {B : Option Addr}
theorem SL.later (L : TreeCalls At) (h : SL At n w wr O g gr P ra rb rc old k) (hb : Below wr.heap.size wr W) : SL At n w W O g gr P ra rb rc old k :=
  ⟨h.has.far L hb, h.good, h.box.later hb, h.lo, h.st, h.N, h.cnt, h.tot⟩
theorem SL.same (h : SL At n w wr O g gr P ra rb rc old k) (ha : At W O' g P) (s : Step wr W O O') : SL At n w W O' g gr P ra rb rc old k :=
  ⟨h.has.step ha s, h.good, h.box.step s, h.lo, h.st, h.N, h.cnt, h.tot⟩
theorem SL.next (h : SL At n w wr O g gr P ra rb rc old k) (ha : At W O' g (nextW P)) (s : Step wr W O O') (hk : k ≤ 1000) : SL At n w W O' g gr (nextW P) ra rb rc old (k + 1) :=
  ⟨h.has.step ha s, by obtain ⟨F, S, T, hg⟩ := h.good; exact ⟨F, S, T, hg.next (by have := h.st; omega)⟩, h.box.step s, h.lo, by show P.st + 1 ≤ 1 + (k + 1); have := h.st; omega, by show P.N ≤ _; have := h.N; omega, by show P.m.count + _ ≥ n; have := h.cnt; omega, h.tot⟩
theorem SL.done (L : TreeCalls At) (h : SL At n w wr O g gr P ra rb rc old k) (c : Change At n wr W O O' g P P' (ra', rb', rc') old kk B) (hch : Chg W W3 (fun j => j = g11 ∨ j = gr)) (h11 : ¬ O' g11) (lo11 : w.heap.size ≤ g11) (hbox : Blk W3 gr 32 (pcs ra' rb' rc')) :
    SL At n w W3 O' g gr P' ra' rb' rc' (old ++ kk) (k + 1) := by
  have hs := h.has.step c.at_ c.step
  have hgr := (h.box.step c.step).far
  refine ⟨⟨L.stay hs.at_ hch fun j hj hx => ?_, hs.lo, hs.below.trans (hch.below (fun j hj => ?_) hs.below.size)⟩, c.good, ⟨hbox, hgr⟩, h.lo, by have := h.st; have := c.st; omega, by have := h.N; have := c.N; omega, by have := h.cnt; have := c.cnt; omega, c.tot.trans h.tot⟩
  · rcases hx with rfl | rfl
    · exact h11 hj
    · exact hgr hj
  · rcases hj with rfl | rfl
    · exact lo11
    · exact h.lo
end
end
end Go.Proofs.Ytagkhicbngaghaa
