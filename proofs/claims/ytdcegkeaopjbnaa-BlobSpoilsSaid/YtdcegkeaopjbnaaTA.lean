/- The texts T1 A1 T6 T14 T18. -/
import Derived.Test.YtdcegkeaopjbnaaOA
import Derived.Test.YtdcegkeaopjbnaaHA
import Derived.Test.YtdcegkeaopjbnaaBA
import Derived.Test.YtdcegkeaopjbnaaVA
set_option maxRecDepth 10000
namespace Go.Proofs.Ytdcegkeaopjbnaa

section
open Go.RowKit

/-! ### What a pile holds -/
theorem hole_iff {q : PtrV} : holeF q.1 q.2.1 q.2.2 = true ↔ q = hole0 := by
  obtain ⟨a, b, c⟩ := q
  unfold holeF hole0
  simp [and_assoc]
theorem sumS_lt (x : Sec) : sumS x < 4294967296 := by
  unfold sumS moreF notF
  omega
structure OkW (P : Pw) : Prop where
  nwl : P.m.tot ≤ P.nw.length
  tot : P.m.tot ≤ 1024
  st1 : 1 ≤ P.st
  stM : P.st ≤ 281474976710655
/-- The pointer is a hole, or leads to a sector that is taken and holds these bytes. -/
def Held (P : Pw) (q : PtrV) (x : Sec) : Prop :=
  (q = hole0 ∧ x = zsec) ∨ ∃ (i : Nat) (b : Int), q = ((i : Int), b, (sumS x : Int)) ∧ 1 ≤ b ∧ b ≤ 281474976710655 ∧ P.m.is 1 i = true ∧ P.nw.getD i zsec = x
theorem held_hole (P : Pw) : Held P hole0 zsec := .inl ⟨rfl, rfl⟩
section
variable {P P' : Pw} {q : PtrV} {x : Sec}
theorem Held.get (ok : OkW P) (h : Held P q x) : getS P q = (x, 0) := by
  rcases h with ⟨rfl, rfl⟩ | ⟨i, b, rfl, h1, _, hi, hx⟩
  · exact get_hole P
  · exact get_same (hole_ne (by omega)) (by have := (Mp.is_iff.1 hi).2.1; have := ok.nwl; omega) hx
theorem Held.zero (h : Held P hole0 x) : x = zsec := by
  rcases h with ⟨_, h⟩ | ⟨i, b, he, h1, _⟩
  · exact h
  · have : (0 : Int) = b := congrArg (fun q : PtrV => q.2.1) he
    omega
theorem Held.at_ (h : Held P q x) (hq : q ≠ hole0) : ∃ i : Nat, q.1 = (i : Int) ∧ 4 ≤ i ∧ i < P.m.tot ∧ P.m.is 1 i = true ∧ 1 ≤ q.2.1 ∧ q.2.1 ≤ 281474976710655 ∧ 0 ≤ q.2.2 ∧ q.2.2 < 4294967296 := by
  rcases h with ⟨h, _⟩ | ⟨i, b, rfl, h1, h2, hi, hx⟩
  · exact absurd h hq
  · obtain ⟨h3, h4, _⟩ := Mp.is_iff.1 hi
    have := sumS_lt x
    exact ⟨i, rfl, h3, h4, hi, h1, h2, by simp only; omega, by simp only; omega⟩
theorem Held.right (ok : OkW P) (h : Held P q x) : rightQ q = true ∧ PtrOk q := by
  by_cases hq : q = hole0
  · subst hq
    exact ⟨rfl, hole_ok8⟩
  · obtain ⟨i, h1, h4, ht, _, hb1, hb2, hs1, hs2⟩ := h.at_ hq
    have := ok.tot
    obtain ⟨a, b, c⟩ := q
    simp only at h1 hb1 hb2 hs1 hs2
    subst h1
    refine ⟨?_, ?_⟩
    · show (holeF _ b c || canF _ b) = true
      rw [can_yes ⟨by omega, by omega, hb1, hb2⟩, Bool.or_true]
    · unfold PtrOk
      refine ⟨?_, ?_, ?_, ?_, ?_, ?_⟩ <;> simp only <;> omega
end
/-! ### One put -/
/-- A pointer's share of a sector; of all that are told. -/
def cA (a : Nat) (q : PtrV) : Nat := if q ≠ hole0 ∧ q.1 = (a : Int) then 1 else 0
def cN (q : PtrV) : Nat := if q ≠ hole0 then 1 else 0
def tk (P : Pw) (a : Nat) : Nat := if P.m.is 1 a = true then 1 else 0
theorem cA_hole (a : Nat) : cA a hole0 = 0 := if_neg fun h => h.1 rfl
theorem cN_hole : cN hole0 = 0 := if_neg fun h => h rfl
/-- What a put, or none, leaves. -/
structure Grew (P P' : Pw) (q : PtrV) : Prop where
  held : ∀ {r : PtrV} {x : Sec}, Held P r x → Held P' r x
  ok : OkW P'
  st : P'.st = P.st
  tot : P'.m.tot = P.m.tot
  N : P'.N ≤ P.N + 1
  tk : ∀ a, tk P' a = tk P a + cA a q
  cnt : P'.m.count + cN q = P.m.count
  born : q = hole0 ∨ q.2.1 = (P.st : Int)
theorem Grew.same {P : Pw} (ok : OkW P) : Grew P P hole0 :=
  ⟨id, ok, rfl, rfl, Nat.le_succ _, fun a => by rw [cA_hole, Nat.add_zero], by rw [cN_hole, Nat.add_zero], .inl rfl⟩
theorem Held.put {P : Pw} {q : PtrV} {x : Sec} (h : Held P q x) {i : Nat} (hi : P.m.is 0 i = true) (y : Sec) : Held ⟨P.nw.set i y, P.m.put i 1, P.st, P.ba, P.N + 1⟩ q x := by
  rcases h with h | ⟨j, b, rfl, h1, h2, hj, hx⟩
  · exact .inl h
  · have hne : j ≠ i := fun e => by
      subst e
      have h3 := (Mp.is_iff.1 hi).2.2
      have h4 := (Mp.is_iff.1 hj).2.2
      omega
    refine .inr ⟨j, b, rfl, h1, h2, ?_, ?_⟩
    · show (P.m.put i 1).is 1 j = true
      rw [Mp.put_is_ne hne, hj]
    · show (P.nw.set i y).getD j zsec = x
      rw [← hx, List.getD_eq_getElem?_getD, List.getD_eq_getElem?_getD, List.getElem?_set_ne (Ne.symm hne)]
/-- A put where there is room. -/
theorem put_grew {P : Pw} (ok : OkW P) {l : List UInt8} (hl : l.length ≤ 128) (hc : 0 < P.m.count) : putC P l = 0 ∧ Grew P (putP P l) (putQ P l) ∧ Held (putP P l) (putQ P l) (blockS l) ∧ putQ P l ≠ hole0 := by
  cases hx : P.m.next with
  | none =>
    have := next_none.1 hx
    omega
  | some i =>
    obtain ⟨e1, e2, e3⟩ := pput_yes (P := P) (l := l) (by omega) hx
    obtain ⟨h0, h1024, _⟩ := next_some hx
    obtain ⟨g4, gt, g0⟩ := Mp.is_iff.1 h0
    have hq : ((i : Int), (P.st : Int), (sumS (blockS l) : Int)) ≠ hole0 := hole_ne (by have := ok.st1; omega)
    have hi1 : (P.m.put i 1).is 1 i = true := by rw [Mp.put_is_self, decide_eq_true g4, decide_eq_true gt]; rfl
    have hw := ok.nwl
    rw [e1, e2, e3]
    refine ⟨rfl, ⟨fun h => h.put h0 _, ⟨by show P.m.tot ≤ (P.nw.set i _).length; rw [List.length_set]; exact ok.nwl, ok.tot, ok.st1, ok.stM⟩, rfl, rfl, Nat.le_refl _, fun a => ?_, ?_, .inr rfl⟩, .inr ⟨i, _, rfl, by have := ok.st1; omega, by have := ok.stM; omega, hi1, ?_⟩, hq⟩
    · unfold Go.Proofs.Ytdcegkeaopjbnaa.tk cA
      show (if (P.m.put i 1).is 1 a = true then 1 else 0) = _
      by_cases ha : a = i
      · subst ha
        have h1 : P.m.is 1 a = false := by
          rw [Bool.eq_false_iff]
          intro h
          have := (Mp.is_iff.1 h).2.2
          omega
        rw [if_pos hi1, h1, if_neg (by simp), if_pos ⟨hq, rfl⟩]
      · rw [Mp.put_is_ne ha, if_neg (c := _ ∧ _) (fun h => ha (by have := h.2; simp only at this; omega)), Nat.add_zero]
    · have := count_take h0 h1024 (s := 1) (by omega)
      show (P.m.put i 1).count + cN _ = _
      unfold cN
      rw [if_pos hq]
      omega
    · show (P.nw.set i (blockS l)).getD i zsec = _
      rw [List.getD_eq_getElem?_getD, List.getElem?_set_self (by omega)]
      rfl
theorem blockS_sec (x : Sec) : blockS x.l = x := Sec.eq (by
  unfold blockS
  simp only
  rw [List.take_append_of_le_length (by rw [x.h]; omega), List.take_of_length_le (by rw [x.h]; omega)])
/-! ### A node put, if it isn't empty -/
theorem empty_iff {p : P8} : emptyF p = true ↔ ∀ j, j < 8 → p.at_ j = hole0 := by
  unfold emptyF
  rw [List.all_eq_true]
  constructor
  · intro h j hj
    exact hole_iff.1 (h _ (p.at_mem j hj))
  · intro h q hq
    obtain ⟨j, hj, rfl⟩ := List.getElem_of_mem hq
    have hj8 : j < 8 := by rw [p.h] at hj; exact hj
    rw [← at_eq p j hj8, h j hj8]
    rfl
theorem zp8_at (j : Nat) (hj : j < 8) : zp8.at_ j = hole0 := empty_iff.1 zp8_s.2.2.1 j hj
theorem empty_zp8 {p : P8} (h : emptyF p = true) : p = zp8 := P8.ext fun j hj => by rw [empty_iff.1 h j hj, zp8_at j hj]
def putNP (P : Pw) (p : P8) : Pw := if emptyF p = true then P else putP P (nbS p).l
def putNQ (P : Pw) (p : P8) : PtrV := if emptyF p = true then hole0 else putQ P (nbS p).l
theorem putN_grew {P : Pw} (ok : OkW P) (p : P8) (hc : emptyF p = false → 0 < P.m.count) : Grew P (putNP P p) (putNQ P p) ∧ Held (putNP P p) (putNQ P p) (nbS p) ∧ (putNQ P p = hole0 ↔ emptyF p = true) := by
  unfold putNP putNQ
  cases he : emptyF p with
  | true =>
    simp only [if_true]
    refine ⟨.same ok, ?_, by simp⟩
    rw [empty_zp8 he, zp8_b]
    exact held_hole P
  | false =>
    simp only [Bool.false_eq_true, if_false]
    obtain ⟨_, h2, h3, h4⟩ := put_grew ok (l := (nbS p).l) (by rw [(nbS p).h]; omega) (hc he)
    rw [blockS_sec] at h3
    exact ⟨h2, h3, by simp [h4]⟩
/-! ### Sixty-four blocks under a pointer -/
structure Tree (P : Pw) (root : PtrV) (F : P8) (S : Nat → P8) (T : Nat → Sec) : Prop where
  fok : F.ok
  fall : all8 F = true
  top : Held P root (nbS F)
  sok : ∀ k, k < 8 → (S k).ok
  sall : ∀ k, k < 8 → all8 (S k) = true
  mid : ∀ k, k < 8 → Held P (F.at_ k) (nbS (S k))
  blk : ∀ i, i < 64 → Held P ((S (i / 8)).at_ (i % 8)) (T i)
theorem tree_zero (P : Pw) : Tree P hole0 zp8 (fun _ => zp8) (fun _ => zsec) :=
  ⟨zp8_ok, zp8_s.1, by rw [zp8_b]; exact held_hole P, fun _ _ => zp8_ok, fun _ _ => zp8_s.1, fun k hk => by rw [zp8_at k hk, zp8_b]; exact held_hole P, fun i _ => by rw [zp8_at _ (Nat.mod_lt _ (by omega))]; exact held_hole P⟩
section
variable {P P' : Pw} {root q : PtrV} {F : P8} {S : Nat → P8} {T : Nat → Sec} {x : Sec} {i : Nat}
theorem Tree.grew (t : Tree P root F S T) (g : Grew P P' q) : Tree P' root F S T :=
  ⟨t.fok, t.fall, g.held t.top, t.sok, t.sall, fun k hk => g.held (t.mid k hk), fun i hi => g.held (t.blk i hi)⟩
theorem nb_zero {p : P8} (hp : p.ok) (h : all8 p = true) (he : nbS p = zsec) : p = zp8 := by
  rw [← zp8_b] at he
  exact (nbS_inj hp zp8_ok h zp8_s.1).1 he
theorem Tree.none (t : Tree P root F S T) (h : root = hole0) : F = zp8 := nb_zero t.fok t.fall (by have := t.top; rw [h] at this; exact this.zero)
theorem Tree.noneK (t : Tree P root F S T) {k : Nat} (hk : k < 8) (h : F.at_ k = hole0) : S k = zp8 := nb_zero (t.sok k hk) (t.sall k hk) (by have := t.mid k hk; rw [h] at this; exact this.zero)
/-- The block's pointer; the nodes behind a change; the pile behind them. -/
def blkQ (S : Nat → P8) (i : Nat) : PtrV := (S (i / 8)).at_ (i % 8)
def newS (S : Nat → P8) (i : Nat) (q : PtrV) : P8 := (S (i / 8)).set (i % 8) q
def midP (P : Pw) (S : Nat → P8) (i : Nat) (q : PtrV) : Pw := putNP P (newS S i q)
def midQ (P : Pw) (S : Nat → P8) (i : Nat) (q : PtrV) : PtrV := putNQ P (newS S i q)
def newF (P : Pw) (F : P8) (S : Nat → P8) (i : Nat) (q : PtrV) : P8 := F.set (i / 8) (midQ P S i q)
def turnP (P : Pw) (F : P8) (S : Nat → P8) (i : Nat) (q : PtrV) : Pw := putNP (midP P S i q) (newF P F S i q)
def turnQ (P : Pw) (F : P8) (S : Nat → P8) (i : Nat) (q : PtrV) : PtrV := putNQ (midP P S i q) (newF P F S i q)
def setS (S : Nat → P8) (i : Nat) (q : PtrV) (k : Nat) : P8 := if k = i / 8 then newS S i q else S k
def setT (T : Nat → Sec) (i : Nat) (x : Sec) (j : Nat) : Sec := if j = i then x else T j
def oldL (F : P8) (S : Nat → P8) (root : PtrV) (i : Nat) : List PtrV := [blkQ S i, F.at_ (i / 8), root].filter fun q => !holeF q.1 q.2.1 q.2.2
/-- How many nodes are put. -/
def need (F : P8) (S : Nat → P8) (i : Nat) (q : PtrV) : Nat := if emptyF (newS S i q) = true then if emptyF (F.set (i / 8) hole0) = true then 0 else 1 else 2
structure Turned (P P' : Pw) (mid now : PtrV) : Prop where
  held : ∀ {r : PtrV} {x : Sec}, Held P r x → Held P' r x
  ok : OkW P'
  st : P'.st = P.st
  tot : P'.m.tot = P.m.tot
  N : P'.N ≤ P.N + 2
  tk : ∀ a, tk P' a = tk P a + cA a mid + cA a now
  cnt : P'.m.count + cN mid + cN now = P.m.count
  bornM : mid = hole0 ∨ mid.2.1 = (P.st : Int)
  bornN : now = hole0 ∨ now.2.1 = (P.st : Int)
theorem set_all {p : P8} (hp : p.ok) (ha : all8 p = true) {q : PtrV} (h : rightQ q = true ∧ PtrOk q) (j : Nat) : (p.set j q).ok ∧ all8 (p.set j q) = true :=
  ⟨set_ok hp h.2 j, all8_iff.2 fun k hk => by
    rw [P8.set_at _ _ _ _ hk]
    split
    · exact h.1
    · exact all8_at ha k hk⟩
theorem Tree.turn (ok : OkW P) (t : Tree P root F S T) (hq : Held P q x) (hi : i < 64) (hc : need F S i q ≤ P.m.count) :
    Turned P (turnP P F S i q) (midQ P S i q) (turnQ P F S i q) ∧ Tree (turnP P F S i q) (turnQ P F S i q) (newF P F S i q) (setS S i q) (setT T i x) ∧
      (midQ P S i q = hole0 ↔ emptyF (newS S i q) = true) ∧ (turnQ P F S i q = hole0 ↔ emptyF (newF P F S i q) = true) := by
  have hi8 : i / 8 < 8 := by omega
  have hm8 : i % 8 < 8 := by omega
  obtain ⟨s1, s2⟩ := set_all (t.sok _ hi8) (t.sall _ hi8) (hq.right ok) (i % 8)
  have hc1 : emptyF (newS S i q) = false → 2 ≤ P.m.count := fun h => by
    unfold need at hc
    rw [h] at hc
    simpa using hc
  obtain ⟨g1, h1, n1⟩ : Grew P (midP P S i q) (midQ P S i q) ∧ Held (midP P S i q) (midQ P S i q) (nbS (newS S i q)) ∧ (midQ P S i q = hole0 ↔ emptyF (newS S i q) = true) := putN_grew ok (newS S i q) fun h => by have := hc1 h; omega
  obtain ⟨f1, f2⟩ := set_all t.fok t.fall (h1.right g1.ok) (i / 8)
  have hc2 : emptyF (newF P F S i q) = false → 0 < (midP P S i q).m.count := fun h => by
    have hcnt : (midP P S i q).m.count + cN (midQ P S i q) = P.m.count := g1.cnt
    cases he : emptyF (newS S i q) with
    | false =>
      have := hc1 he
      have h1 : cN (midQ P S i q) ≤ 1 := by unfold cN; split <;> omega
      omega
    | true =>
      have hm : midQ P S i q = hole0 := n1.2 he
      rw [hm, cN_hole] at hcnt
      have hF : newF P F S i q = F.set (i / 8) hole0 := by unfold newF; rw [hm]
      rw [hF] at h
      unfold need at hc
      rw [he, h] at hc
      simp at hc
      omega
  obtain ⟨g2, h2, n2⟩ : Grew (midP P S i q) (turnP P F S i q) (turnQ P F S i q) ∧ Held (turnP P F S i q) (turnQ P F S i q) (nbS (newF P F S i q)) ∧ (turnQ P F S i q = hole0 ↔ emptyF (newF P F S i q) = true) := putN_grew g1.ok (newF P F S i q) hc2
  refine ⟨⟨fun h => g2.held (g1.held h), g2.ok, g2.st.trans g1.st, g2.tot.trans g1.tot, ?_, fun a => ?_, ?_, g1.born, ?_⟩, ⟨f1, f2, h2, fun k hk => ?_, fun k hk => ?_, fun k hk => ?_, fun j hj => ?_⟩, n1, n2⟩
  · have a1 := g1.N
    have a2 := g2.N
    omega
  · rw [g2.tk, g1.tk]
  · have a1 := g1.cnt
    have a2 := g2.cnt
    omega
  · rcases g2.born with h | h
    · exact .inl h
    · exact .inr (h.trans (by rw [g1.st]))
  · unfold setS
    split
    · exact s1
    · exact t.sok k hk
  · unfold setS
    split
    · exact s2
    · exact t.sall k hk
  · have e : (newF P F S i q).at_ k = if i / 8 = k then midQ P S i q else F.at_ k := P8.set_at _ _ _ _ hk
    rw [e]
    unfold setS
    by_cases hkk : k = i / 8
    · rw [if_pos hkk, if_pos hkk.symm]
      exact g2.held h1
    · rw [if_neg hkk, if_neg fun h => hkk h.symm]
      exact g2.held (g1.held (t.mid k hk))
  · have hj8 : j % 8 < 8 := by omega
    have e : (setS S i q (j / 8)).at_ (j % 8) = if j = i then q else (S (j / 8)).at_ (j % 8) := by
      unfold setS
      by_cases hkk : j / 8 = i / 8
      · rw [if_pos hkk]
        unfold newS
        rw [P8.set_at _ _ _ _ hj8]
        by_cases hjj : i % 8 = j % 8
        · rw [if_pos hjj, if_pos (by omega)]
        · rw [if_neg hjj, if_neg (by omega), hkk]
      · rw [if_neg hkk, if_neg (by omega)]
    rw [e]
    unfold setT
    by_cases hji : j = i
    · rw [if_pos hji, if_pos hji]
      exact g2.held (g1.held hq)
    · rw [if_neg hji, if_neg hji]
      exact g2.held (g1.held (t.blk j hj))
end
end
section
open Go.RowKit

/-! ### How many sectors -/
def lvF : Nat → Nat → List Nat
  | 0, k => [k]
  | f + 1, k => if k ≤ 1 then [k] else k :: lvF f ((k + 7) / 8)
def levels (n : Nat) : List Nat := if 1 ≤ n ∧ n ≤ 65535 then lvF 4 ((n + 127) / 128) else []
def needF (n : Nat) : Nat := (levels n).sum
theorem levels_no {n : Nat} (h : ¬ (1 ≤ n ∧ n ≤ 65535)) : levels n = [] := if_neg h
theorem levels_yes {n : Nat} (h : 1 ≤ n ∧ n ≤ 65535) : levels n = lvF 4 ((n + 127) / 128) := if_pos h
theorem lvF_pos : ∀ (f k : Nat), ∃ r, lvF f k = k :: r
  | 0, k => ⟨[], rfl⟩
  | f + 1, k => by
    unfold lvF
    split
    · exact ⟨[], rfl⟩
    · exact ⟨_, rfl⟩
def lastOne : List Nat → Bool
  | [] => false
  | [k] => k == 1
  | _ :: r => lastOne r
theorem lv_all : ∀ k, k < 513 → k ≠ 0 → lastOne (lvF 4 k) = true ∧ (lvF 4 k).sum ≤ 585 ∧ k ≤ (lvF 4 k).sum ∧ (lvF 4 k).sum ≤ k + k / 7 + 3 := by decide +kernel
theorem lv_next : ∀ k, k < 512 → k ≠ 0 → (lvF 4 k).sum ≤ (lvF 4 (k + 1)).sum ∧ (lvF 4 (k + 1)).sum ≤ (lvF 4 k).sum + 4 := by decide +kernel
theorem need_no {n : Nat} (h : ¬ (1 ≤ n ∧ n ≤ 65535)) : needF n = 0 := by unfold needF; rw [levels_no h]; rfl
theorem need_pos {n : Nat} (h : 1 ≤ n ∧ n ≤ 65535) : 0 < needF n ∧ needF n ≤ 585 ∧ (n + 127) / 128 ≤ needF n ∧ needF n ≤ (n + 127) / 128 + (n + 127) / 128 / 7 + 3 := by
  unfold needF
  rw [levels_yes h]
  obtain ⟨_, h2, h3, h4⟩ := lv_all ((n + 127) / 128) (by omega) (by omega)
  exact ⟨by omega, h2, h3, h4⟩
theorem need_grows {n : Nat} (h1 : 1 ≤ n) (h2 : n < 65535) : needF n ≤ needF (n + 1) ∧ needF (n + 1) ≤ needF n + 4 := by
  unfold needF
  rw [levels_yes ⟨h1, by omega⟩, levels_yes ⟨by omega, by omega⟩]
  by_cases hk : (n + 1 + 127) / 128 = (n + 127) / 128
  · rw [hk]
    exact ⟨Nat.le_refl _, by omega⟩
  · rw [show (n + 1 + 127) / 128 = (n + 127) / 128 + 1 by omega]
    exact lv_next _ (by omega) (by omega)
/-! ### Eight to a node -/
def group8 (qs : List PtrV) (i : Nat) : P8 := ⟨(List.range 8).map fun j => qs.getD (8 * i + j) hole0, by rw [List.length_map, List.length_range]⟩
theorem group8_at (qs : List PtrV) (i j : Nat) (hj : j < 8) : (group8 qs i).at_ j = qs.getD (8 * i + j) hole0 := by
  unfold P8.at_ group8
  simp [List.getD, hj]
def RightL (qs : List PtrV) : Prop := ∀ r ∈ qs, r ≠ hole0 ∧ rightQ r = true ∧ PtrOk r
theorem RightL.getD {qs : List PtrV} (h : RightL qs) (k : Nat) : rightQ (qs.getD k hole0) = true ∧ PtrOk (qs.getD k hole0) := by
  by_cases hk : k < qs.length
  · have := h qs[k] (List.getElem_mem hk)
    simp only [List.getD, List.getElem?_eq_getElem hk, Option.getD_some]
    exact this.2
  · simp only [List.getD, List.getElem?_eq_none (Nat.le_of_not_lt hk), Option.getD_none]
    exact ⟨rfl, hole_ok8⟩
theorem group8_ok {qs : List PtrV} (h : RightL qs) (i : Nat) : (group8 qs i).ok ∧ all8 (group8 qs i) = true := by
  refine ⟨fun q hq => ?_, all8_iff.2 fun j hj => by rw [group8_at _ _ _ hj]; exact (h.getD _).1⟩
  obtain ⟨j, hj, rfl⟩ := List.getElem_of_mem hq
  have hj8 : j < 8 := by rw [(group8 qs i).h] at hj; exact hj
  rw [← at_eq _ j hj8, group8_at _ _ _ hj8]
  exact (h.getD _).2
/-! ### What is loaded -/
def look8 (p : P8) (want : Nat) : Bool := (List.range 8).all fun j => holeF (p.at_ j).1 (p.at_ j).2.1 (p.at_ j).2.2 == decide (want ≤ j)
def node1 (G : PtrV → Sec × Int) (want : Nat) (q : PtrV) : List PtrV × Int :=
  if (G q).2 = 0 then if nrC (G q).1 = 0 then if look8 (nrP (G q).1) want = true then ((nrP (G q).1).l.take want, 0) else ([], 91) else ([], 91) else ([], (G q).2)
def expandF (G : PtrV → Sec × Int) (k : Nat) : List PtrV → List PtrV → List PtrV × Int
  | [], acc => (acc, 0)
  | q :: r, acc => if (node1 G (k - acc.length) q).2 = 0 then expandF G k r (acc ++ (node1 G (k - acc.length) q).1) else ([], (node1 G (k - acc.length) q).2)
def downF (G : PtrV → Sec × Int) : List Nat → List PtrV → List PtrV → List PtrV × List PtrV × Int
  | [], level, all => (level, all, 0)
  | k :: ks, level, all => if (expandF G k level []).2 = 0 then downF G ks (expandF G k level []).1 (all ++ (expandF G k level []).1) else ([], [], (expandF G k level []).2)
def textF (G : PtrV → Sec × Int) : List PtrV → List UInt8 → List UInt8 × Int
  | [], acc => (acc, 0)
  | q :: r, acc => if (G q).2 = 0 then textF G r (acc ++ (G q).1.l) else ([], (G q).2)
def finF (n : Nat) (all : List PtrV) (y : List UInt8 × Int) : List UInt8 × List PtrV × Int :=
  if y.2 = 0 then if (y.1.drop n).all (· == 0) = true then (y.1.take n, all, 0) else ([], [], 91) else ([], [], y.2)
def loadF (G : PtrV → Sec × Int) (root : PtrV) (n : Nat) : List UInt8 × List PtrV × Int :=
  if levels n = [] ∨ root = hole0 then ([], [], 121)
  else if (downF G (levels n).reverse.tail [root] [root]).2.2 = 0 then finF n (downF G (levels n).reverse.tail [root] [root]).2.1 (textF G (downF G (levels n).reverse.tail [root] [root]).1 [])
  else ([], [], (downF G (levels n).reverse.tail [root] [root]).2.2)
/-! ### A blob that can be read, but for some sectors that are spoilt -/
section
variable {G : PtrV → Sec × Int} {lo hi : List PtrV} {l : List UInt8}
theorem look_group (h : RightL lo) (i : Nat) : look8 (group8 lo i) (lo.length - 8 * i) = true := by
  refine List.all_eq_true.2 fun j hj => ?_
  have hj8 := List.mem_range.1 hj
  rw [group8_at _ _ _ hj8, beq_iff_eq]
  by_cases hk : 8 * i + j < lo.length
  · have h1 := (h lo[8 * i + j] (List.getElem_mem hk)).1
    simp only [List.getD, List.getElem?_eq_getElem hk, Option.getD_some]
    rw [decide_eq_false (by omega), Bool.eq_false_iff]
    exact fun e => h1 (hole_iff.1 e)
  · simp only [List.getD, List.getElem?_eq_none (Nat.le_of_not_lt hk), Option.getD_none]
    rw [decide_eq_true (by omega)]
    rfl
theorem take_group (i : Nat) : (group8 lo i).l.take (lo.length - 8 * i) = (lo.drop (8 * i)).take 8 := by
  refine List.ext_getElem? fun j => ?_
  unfold group8
  simp only [List.getElem?_take, List.getElem?_map, List.getElem?_drop]
  by_cases h1 : j < 8
  · rw [if_pos h1, List.getElem?_range h1]
    by_cases h2 : j < lo.length - 8 * i
    · rw [if_pos h2, List.getElem?_eq_getElem (show 8 * i + j < lo.length by omega)]
      simp [List.getD, List.getElem?_eq_getElem (show 8 * i + j < lo.length by omega)]
    · rw [if_neg h2, List.getElem?_eq_none (by omega)]
  · rw [if_neg h1]
    split
    · rw [List.getElem?_eq_none (by simp; omega)]
      rfl
    · rfl
theorem node_good (h : RightL lo) (i : Nat) {q : PtrV} (hq : G q = (nbS (group8 lo i), 0)) : node1 G (lo.length - 8 * i) q = ((lo.drop (8 * i)).take 8, 0) := by
  obtain ⟨hok, h8⟩ := group8_ok h i
  obtain ⟨_, b2, b3⟩ := back8 hok h8
  unfold node1
  rw [hq]
  simp only
  rw [if_pos trivial, if_pos b3, b2, if_pos (look_group h i), take_group i]
theorem node_bad (w : Nat) {q : PtrV} (hq : G q = (zsec, 91)) : node1 G w q = ([], 91) := by
  unfold node1
  rw [hq]
  exact if_neg (show ¬ (91 : Int) = 0 by decide)
def okL (G : PtrV → Sec × Int) (l : List PtrV) : Bool := l.all fun q => (G q).2 == 0
structure Link (G : PtrV → Sec × Int) (hi lo : List PtrV) : Prop where
  len : hi.length = (lo.length + 7) / 8
  right : RightL lo
  node : ∀ i (h : i < hi.length), G hi[i] = (nbS (group8 lo i), 0) ∨ G hi[i] = (zsec, 91)
theorem expand_from (h : Link G hi lo) : ∀ (d i : Nat), i + d = hi.length → expandF G lo.length (hi.drop i) (lo.take (8 * i)) = if okL G (hi.drop i) = true then (lo, 0) else ([], 91)
  | 0, i, e => by
    have h1 : hi.drop i = [] := List.drop_eq_nil_of_le (by omega)
    have hl := h.len
    rw [h1, List.take_of_length_le (by omega)]
    rfl
  | d + 1, i, e => by
    have hlt : i < hi.length := by omega
    have hl := h.len
    rw [List.drop_eq_getElem_cons hlt]
    unfold expandF
    rw [show (lo.take (8 * i)).length = 8 * i by rw [List.length_take]; omega]
    have ho : okL G (hi[i] :: hi.drop (i + 1)) = ((G hi[i]).2 == 0 && okL G (hi.drop (i + 1))) := rfl
    rw [ho]
    rcases h.node i hlt with hg | hg
    · rw [node_good h.right i hg, hg]
      simp only [if_true, beq_self_eq_true, Bool.true_and]
      have e2 : lo.take (8 * i) ++ (lo.drop (8 * i)).take 8 = lo.take (8 * (i + 1)) := by rw [show 8 * (i + 1) = 8 * i + 8 by omega, List.take_add]
      rw [e2]
      exact expand_from h d (i + 1) (by omega)
    · rw [node_bad _ hg, hg]
      rfl
theorem expand_any (h : Link G hi lo) : expandF G lo.length hi [] = if okL G hi = true then (lo, 0) else ([], 91) := by
  have := expand_from h hi.length 0 (by omega)
  simpa using this
def Chain (G : PtrV → Sec × Int) : List (List PtrV) → Prop
  | [] => True
  | [_] => True
  | hi :: lo :: r => Link G hi lo ∧ Chain G (lo :: r)
def lastL : List (List PtrV) → List PtrV
  | [] => []
  | [a] => a
  | _ :: b :: r => lastL (b :: r)
theorem down_any : ∀ (r : List (List PtrV)) (hi : List PtrV) (all : List PtrV), Chain G (hi :: r) → downF G (r.map List.length) hi all = if ((hi :: r).dropLast.all (okL G)) = true then (lastL (hi :: r), all ++ r.flatten, 0) else ([], [], 91)
  | [], hi, all, _ => by simp [downF, lastL]
  | lo :: r, hi, all, h => by
    have h1 := expand_any h.1
    have hd : (hi :: lo :: r).dropLast = hi :: (lo :: r).dropLast := rfl
    rw [hd]
    show (if (expandF G lo.length hi []).2 = 0 then downF G (r.map List.length) (expandF G lo.length hi []).1 (all ++ (expandF G lo.length hi []).1) else ([], [], (expandF G lo.length hi []).2)) = _
    rw [h1]
    by_cases ho : okL G hi = true
    · rw [if_pos ho]
      simp only [if_true]
      rw [down_any r lo (all ++ lo) h.2, List.append_assoc, List.all_cons, ho, Bool.true_and]
      rfl
    · rw [if_neg ho, List.all_cons, Bool.eq_false_iff.2 ho, Bool.false_and]
      rfl
/-! ### The text -/
def chunk (l : List UInt8) (i : Nat) : List UInt8 := (l.drop (128 * i)).take 128
theorem chunk_at (l : List UInt8) (i j : Nat) (hj : j < 128) : (chunk l i).getD j 0 = l.getD (128 * i + j) 0 := by
  unfold chunk
  simp only [List.getD, List.getElem?_take, List.getElem?_drop]
  rw [if_pos hj]
def padF (l : List UInt8) (k : Nat) : List UInt8 := (l ++ List.replicate (128 * k) 0).take (128 * k)
theorem padF_len (l : List UInt8) (k : Nat) : (padF l k).length = 128 * k := by unfold padF; rw [List.length_take, List.length_append, List.length_replicate]; omega
theorem padF_at (l : List UInt8) (k j : Nat) (hj : j < 128 * k) : (padF l k)[j]? = some (l.getD j 0) := by
  unfold padF
  rw [List.getElem?_take, if_pos hj]
  by_cases h : j < l.length
  · rw [List.getElem?_append_left h]
    simp [List.getD, h]
  · rw [List.getElem?_append_right (by omega), List.getElem?_replicate, if_pos (by omega)]
    simp [List.getD, List.getElem?_eq_none (Nat.le_of_not_lt h)]
theorem padF_next (l : List UInt8) (k : Nat) : padF l k ++ (blockS (chunk l k)).l = padF l (k + 1) := by
  refine List.ext_getElem? fun j => ?_
  by_cases h : j < 128 * (k + 1)
  · rw [padF_at l (k + 1) j h]
    by_cases h2 : j < 128 * k
    · rw [List.getElem?_append_left (by rw [padF_len]; exact h2), padF_at l k j h2]
    · have hj : j - 128 * k < 128 := by omega
      rw [List.getElem?_append_right (by rw [padF_len]; omega), padF_len, List.getElem?_eq_getElem (by rw [(blockS _).h]; exact hj), blockS_at _ _ hj, chunk_at _ _ _ hj, show 128 * k + (j - 128 * k) = j by omega]
  · rw [List.getElem?_eq_none (by rw [List.length_append, padF_len, (blockS _).h]; omega), List.getElem?_eq_none (by rw [padF_len]; omega)]
theorem padF_zero (l : List UInt8) : padF l 0 = [] := List.eq_nil_of_length_eq_zero (padF_len l 0)
theorem padF_cut {l : List UInt8} {k : Nat} (h : l.length ≤ 128 * k) : (padF l k).take l.length = l ∧ ((padF l k).drop l.length).all (· == 0) = true := by
  constructor
  · unfold padF
    rw [List.take_take, Nat.min_eq_left h, List.take_left' rfl]
  · refine List.all_eq_true.2 fun x hx => ?_
    obtain ⟨j, hj, rfl⟩ := List.getElem_of_mem hx
    have hj2 : l.length + j < 128 * k := by rw [List.length_drop, padF_len] at hj; omega
    have h1 := padF_at l k (l.length + j) hj2
    rw [List.getElem_drop, beq_iff_eq]
    have h3 : l.length + j < (padF l k).length := by rw [padF_len]; exact hj2
    rw [List.getElem?_eq_getElem h3] at h1
    rw [Option.some.inj h1]
    simp [List.getD]
theorem text_from {lv : List PtrV} (h : ∀ i (h : i < lv.length), G lv[i] = (blockS (chunk l i), 0) ∨ G lv[i] = (zsec, 91)) : ∀ (d i : Nat), i + d = lv.length → textF G (lv.drop i) (padF l i) = if okL G (lv.drop i) = true then (padF l lv.length, 0) else ([], 91)
  | 0, i, e => by
    have h1 : lv.drop i = [] := List.drop_eq_nil_of_le (by omega)
    rw [h1, show lv.length = i by omega]
    rfl
  | d + 1, i, e => by
    have hlt : i < lv.length := by omega
    rw [List.drop_eq_getElem_cons hlt]
    unfold textF
    have ho : okL G (lv[i] :: lv.drop (i + 1)) = ((G lv[i]).2 == 0 && okL G (lv.drop (i + 1))) := rfl
    rw [ho]
    rcases h i hlt with hg | hg
    · rw [hg]
      simp only [if_true, beq_self_eq_true, Bool.true_and]
      rw [padF_next]
      exact text_from h d (i + 1) (by omega)
    · rw [hg]
      rfl
/-! ### The whole -/
/-- A blob under a pointer, its levels the root's first; some of its sectors may be spoilt. -/
structure BlobG (G : PtrV → Sec × Int) (l : List UInt8) (M : List (List PtrV)) (root : PtrV) : Prop where
  n : 1 ≤ l.length ∧ l.length ≤ 65535
  lens : M.map List.length = (levels l.length).reverse
  right : ∀ lv ∈ M, RightL lv
  top : ∃ r, M = [root] :: r
  chain : Chain G M
  text : ∀ i (h : i < (lastL M).length), G (lastL M)[i] = (blockS (chunk l i), 0) ∨ G (lastL M)[i] = (zsec, 91)
theorem last_app : ∀ (M : List (List PtrV)) (xs : List Nat) (k : Nat), M.map List.length = xs ++ [k] → (lastL M).length = k
  | [], xs, k, h => by simp at h
  | [a], xs, k, h => by
    cases xs with
    | nil => simpa [lastL] using h
    | cons x xs => simp at h
  | a :: b :: r, xs, k, h => by
    cases xs with
    | nil => simp at h
    | cons x xs =>
      simp only [List.map_cons, List.cons_append, List.cons.injEq] at h
      exact last_app (b :: r) xs k h.2
theorem last_len {M : List (List PtrV)} {n : Nat} (hn : 1 ≤ n ∧ n ≤ 65535) (h : M.map List.length = (levels n).reverse) : (lastL M).length = (n + 127) / 128 := by
  obtain ⟨r, hr⟩ := lvF_pos 4 ((n + 127) / 128)
  rw [levels_yes hn, hr, List.reverse_cons] at h
  exact last_app M _ _ h
theorem all_last (p : List PtrV → Bool) : ∀ (M : List (List PtrV)), M ≠ [] → (M.dropLast.all p && p (lastL M)) = M.all p
  | [], h => absurd rfl h
  | [a], _ => by simp [lastL]
  | a :: b :: r, _ => by
    have h := all_last p (b :: r) (by simp)
    show ((a :: (b :: r).dropLast).all p && p (lastL (b :: r))) = (a :: b :: r).all p
    rw [List.all_cons, Bool.and_assoc, h]
    rfl
theorem load_any {M : List (List PtrV)} {root : PtrV} (h : BlobG G l M root) : loadF G root l.length = if M.all (okL G) = true then (l, M.flatten, 0) else ([], [], 91) := by
  obtain ⟨r, rfl⟩ := h.top
  have hroot : root ≠ hole0 := (h.right _ (List.mem_cons_self ..) root (List.mem_singleton.2 rfl)).1
  have hlv : levels l.length ≠ [] := by
    rw [levels_yes h.n]
    obtain ⟨r, hr⟩ := lvF_pos 4 ((l.length + 127) / 128)
    rw [hr]
    simp
  have htl : (levels l.length).reverse.tail = r.map List.length := by rw [← h.lens]; rfl
  have hll := last_len h.n h.lens
  have htx := text_from h.text _ 0 (Nat.zero_add _)
  rw [padF_zero, List.drop_zero] at htx
  unfold loadF
  rw [if_neg (fun e => e.elim hlv hroot), htl, down_any r [root] [root] h.chain, ← all_last (okL G) ([root] :: r) (by simp)]
  cases h1 : ([root] :: r).dropLast.all (okL G) with
  | false => simp
  | true =>
    simp only [if_true, Bool.true_and]
    rw [htx]
    cases h2 : okL G (lastL ([root] :: r)) with
    | false => simp [finF]
    | true =>
      have hcut := padF_cut (l := l) (k := (lastL ([root] :: r)).length) (by rw [hll]; omega)
      simp only [if_true]
      unfold finF
      simp only [if_true]
      rw [hcut.1, if_pos hcut.2]
      rfl
end
end
section
open Go.RowKit

theorem ex_ldPo {o : Oper} {a : Act} {w : World} (x : Operand) (ho : o.op = .load 25 x) (g k : Nat) (i j l : Int) (hx : a.eval x = .pointer (some ⟨g, k, none⟩))
    (c0 : w.cell? ⟨g, k, none⟩ = some (.int .i64 i)) (c1 : w.cell? ⟨g, k + 1, none⟩ = some (.int .u64 j)) (c2 : w.cell? ⟨g, k + 2, none⟩ = some (.int .u32 l)) :
    (execOp a.eval o).run Try.prog w = .ok (.value (ptv i j l)) w := by
  have h := run_loadAt_mid w g k _ [.int .i64 i, .int .u64 j, .int .u32 l] _ (fun n v hv => by
    match n with
    | 0 => exact c0.trans hv
    | 1 => exact c1.trans hv
    | 2 => exact c2.trans hv
    | n + 3 => simp at hv) Try.underlying25 rfl ptr_size
  unfold execOp
  simp only [ho, hx, h, Sem.run_bind, Sem.run_pure, Result.andThen_ok]
section
end
end
section
open Go.RowKit

/-- Bools as a block. -/
def bs64 (p : Nat → Bool) (n : Nat) : Array Value := ((List.range n).map fun i => Value.bool (p i)).toArray
theorem bs64_at (p : Nat → Bool) {n i : Nat} (h : i < n) : (bs64 p n)[i]? = some (.bool (p i)) := by simp [bs64, h]
theorem bs64_set {p q : Nat → Bool} {n i : Nat} {b : Bool} (hi : i < n) (h1 : q i = b) (h : ∀ j, j ≠ i → q j = p j) : (bs64 p n).setIfInBounds i (.bool b) = bs64 q n := by
  refine Array.ext_getElem? fun j => ?_
  rw [Array.getElem?_setIfInBounds]
  by_cases hj : j < n
  · rw [bs64_at q hj, bs64_at p hj]
    by_cases he : i = j
    · subst he
      rw [if_pos rfl, if_pos (by simpa [bs64] using hi), h1]
    · rw [if_neg he, h j (Ne.symm he)]
  · have e : ∀ p : Nat → Bool, (bs64 p n)[j]? = none := fun p => Array.getElem?_eq_none (by simp [bs64]; omega)
    rw [e, e, if_neg (by omega)]
end
section
open Go.RowKit

section
variable {bw : Nat} {A : Option Addr} {l : List Int}
end
section
variable {w w' : World} {O O' X : Nat → Prop} {base : Nat} {v v' : Value} {l m : List Int}
end
theorem ex_ldSo {o : Oper} {a : Act} {w : World} (x : Operand) (ho : o.op = .load 46 x) (g k : Nat) (s : Sec) (hx : a.eval x = .pointer (some ⟨g, k, none⟩)) (hg : w.rangeAt g k s.cs) :
    (execOp a.eval o).run Try.prog w = .ok (.value (.agg s.cs.toArray)) w := by
  have h := run_loadAt_mid w g k _ s.cs _ hg Try.underlying46 rfl (sizeSec' s)
  unfold execOp
  simp only [ho, hx, h, Sem.run_bind, Sem.run_pure, Result.andThen_ok]
end
end Go.Proofs.Ytdcegkeaopjbnaa
