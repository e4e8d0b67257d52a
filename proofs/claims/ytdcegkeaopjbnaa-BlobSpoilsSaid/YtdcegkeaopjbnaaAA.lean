/- The texts A2 A3 A4 A5 A6 A7. -/
import Derived.Test.YtdcegkeaopjbnaaTA
import Derived.Test.YtdcegkeaopjbnaaNA
import Derived.Test.YtdcegkeaopjbnaaBA
import Derived.Test.YtdcegkeaopjbnaaGA
import Derived.Test.YtdcegkeaopjbnaaOA
import Derived.Deep.Cut
import Derived.Laws.MakeOwn
import Derived.Laws.BytesArg
import Derived.Laws.Strings
import Derived.Test.YtdcegkeaopjbnaaQA
set_option maxRecDepth 10000
namespace Go.Proofs.Ytdcegkeaopjbnaa

section
open Go.RowKit

def readS (P : Pw) (i : Int) : Sec × Int := if hasF P.nw.length i = true then (P.nw.getD i.toNat zsec, 0) else (zsec, 41)
/-- What Save leaves. -/
structure Saved (P P' : Pw) (l : List UInt8) (at_ : List Nat) (M : List (List PtrV)) (q : PtrV) : Prop where
  blob : BlobG (getS P') l M q
  good : M.all (okL (getS P')) = true
  place : M.reverse.flatten.map (fun r => r.1) = natI at_
  m : P'.m = P.m
  st : P'.st = P.st
  len : P'.nw.length = P.nw.length
  N : P'.N ≤ P.N + at_.length
/-- The calls of package blob as the document has them; 'At w O g P' says that the block g of w is a pile of which P can be told, in the blocks O. -/
structure BlobCalls (At : World → (Nat → Prop) → Nat → Pw → Prop) : Prop where
  foot : ∀ {w O g P}, At w O g P → ∀ k, O k → k < w.heap.size
  stay : ∀ {w w' O O2 g P}, At w O g P → Chg w w' O2 → (∀ k, O k → ¬ O2 k) → At w' O g P
  made : ∀ (m : Nat) (w : World), m ≤ 1024 → Calls Try.prog 9 #[.int .i64 (m : Int)] w fun e w' => ∃ O g, e = .returned (.pointer (some ⟨g, 0, none⟩)) ∧ At w' O g (newPw (m : Int)) ∧ (∀ k, O k → w.heap.size ≤ k) ∧ Below w.heap.size w w'
  map : ∀ {w O g P}, At w O g P → ∃ gm, Calls Try.prog 13 #[.pointer (some ⟨g, 0, none⟩)] w fun e w' => e = .returned (.pointer (some ⟨gm, 0, none⟩)) ∧ Below w.heap.size w w' ∧
    ∀ w2 (n : Nat), Below w'.heap.size w' w2 → n ≤ 1024 → Calls Try.prog 14 #[.pointer (some ⟨gm, 0, none⟩), .int .i64 (n : Int)] w2 fun e w3 => ∃ O' A c, e = .returned (.tuple #[.slice A (natI (manyL P.m n)).length c, .int .i64 (manyC P.m n)]) ∧ At w3 O' g ⟨P.nw, manyM P.m n, P.st, P.ba, P.N⟩ ∧ RdF w2 w3 O' A (ints (natI (manyL P.m n))) ∧ Step w2 w3 O O' ∧ (natI (manyL P.m n)).length ≤ c
  dev : ∀ {w O g P}, At w O g P → P.N ≤ 1000000 → ∃ dg, Calls Try.prog 16 #[.pointer (some ⟨g, 0, none⟩)] w fun e w' => e = .returned (.pointer (some ⟨dg, 0, none⟩)) ∧ Below w.heap.size w w' ∧
    ∀ w2 (i : Int), I64 i → Below w'.heap.size w' w2 → Calls Try.prog 17 #[.pointer (some ⟨dg, 0, none⟩), .int .i64 i] w2 (fun e w3 => ∃ O', e = .returned (.tuple #[.agg (readS P i).1.cs.toArray, .int .i64 (readS P i).2]) ∧ At w3 O' g P ∧ Step w2 w3 O O') ∧
      ∀ x : Sec, Calls Try.prog 18 #[.pointer (some ⟨dg, 0, none⟩), .int .i64 i, .agg x.cs.toArray] w2 (fun e w3 => ∃ O' v, e = .returned v ∧ At w3 O' g (rotW P i x) ∧ Step w2 w3 O O')
  get : ∀ {w O g P} (q : PtrV), PtrOk q → At w O g P → Calls Try.prog 19 #[.pointer (some ⟨g, 0, none⟩), ptq q] w fun e w' => ∃ O', e = .returned (.tuple #[.agg (getS P q).1.cs.toArray, .int .i64 (getS P q).2]) ∧ At w' O' g P ∧ Step w w' O O'
  need : ∀ (n : Int) (w : World), I64 n → Calls Try.prog 11 #[.int .i64 n] w fun e w' => e = .returned (.int .i64 (needF n.toNat : Int)) ∧ Below w.heap.size w w'
  save : ∀ {w O g P} (A A2 : Option Addr) (c c2 : Nat) (l : List UInt8) (at_ : List Nat), At w O g P → OkW P → 1 ≤ l.length → l.length ≤ 65535 → at_.length = needF l.length → at_.Nodup → (∀ i ∈ at_, P.m.is 1 i = true) → RdA w O A (bys l) → l.length ≤ c → RdA w O A2 (ints (natI at_)) → at_.length ≤ c2 → P.N ≤ 900000 →
    Calls Try.prog 8 #[.pointer (some ⟨g, 0, none⟩), .slice A l.length c, .slice A2 at_.length c2] w fun e w' => ∃ O' P' q M, e = .returned (.tuple #[ptq q, .int .i64 0]) ∧ At w' O' g P' ∧ Step w w' O O' ∧ Saved P P' l at_ M q
  saveNo : ∀ {w O g P}, At w O g P → Calls Try.prog 8 #[.pointer (some ⟨g, 0, none⟩), .slice none 0 0, .slice none 0 0] w fun e w' => ∃ O', e = .returned (.tuple #[ptq hole0, .int .i64 121]) ∧ At w' O' g P ∧ Step w w' O O'
  load : ∀ {w O g P} (q : PtrV) (n : Int), PtrOk q → I64 n → At w O g P → Calls Try.prog 15 #[.pointer (some ⟨g, 0, none⟩), ptq q, .int .i64 n] w fun e w' => ∃ O' A c B d,
    e = .returned (.tuple #[.slice A (loadF (getS P) q n.toNat).1.length c, .slice B (loadF (getS P) q n.toNat).2.1.length d, .int .i64 (loadF (getS P) q n.toNat).2.2]) ∧ At w' O' g P ∧ RdF w w' O' A (bys (loadF (getS P) q n.toNat).1) ∧ RdF w w' O' B (pqs (loadF (getS P) q n.toNat).2.1) ∧ Step w w' O O'
section
variable {At : World → (Nat → Prop) → Nat → Pw → Prop}
/-- A pile that a law has made, since the world w0. -/
structure HasB (At : World → (Nat → Prop) → Nat → Pw → Prop) (w0 w : World) (O : Nat → Prop) (g : Nat) (P : Pw) : Prop where
  at_ : At w O g P
  lo : ∀ k, O k → w0.heap.size ≤ k
  below : Below w0.heap.size w0 w
variable {w0 w w' : World} {O O' : Nat → Prop} {g : Nat} {P P' : Pw}
theorem HasB.step (h : HasB At w0 w O g P) (k : At w' O' g P') (s : Step w w' O O') : HasB At w0 w' O' g P' :=
  ⟨k, fun j hj => (s.new j hj).elim (h.lo j) fun h2 => Nat.le_trans h.below.size h2, h.below.trans (s.chg.below h.lo h.below.size)⟩
theorem HasB.far (L : BlobCalls At) (h : HasB At w0 w O g P) (hb : Below w.heap.size w w') : HasB At w0 w' O g P :=
  ⟨L.stay h.at_ (Chg.of_below (O := fun _ => False) hb) (fun _ _ => id), h.lo, h.below.trans (hb.mono h.below.size)⟩
theorem HasB.first (hb : Below w0.heap.size w0 w) (h : At w' O' g P) (hO : ∀ k, O' k → w.heap.size ≤ k) (hb' : Below w.heap.size w w') : HasB At w0 w' O' g P :=
  ⟨h, fun k hk => Nat.le_trans hb.size (hO k hk), hb.trans (hb'.mono hb.size)⟩
end
/-! ### So many sectors of a new pile -/
theorem new_many (m n : Nat) (h4 : 4 ≤ m) (hm : m ≤ 1024) (hn : n ≤ m - 4) : manyC (newMp (m : Int)) n = 0 ∧ (manyL (newMp (m : Int)) n).length = n ∧ (manyL (newMp (m : Int)) n).Nodup ∧
    (∀ i ∈ manyL (newMp (m : Int)) n, (manyM (newMp (m : Int)) n).is 1 i = true ∧ i < m ∧ 4 ≤ i) ∧ (manyM (newMp (m : Int)) n).tot = m := by
  have ht : (newMp (m : Int)).tot = m := by show (min (max (m : Int) 0) 1024).toNat = m; omega
  have hc := count_new (m : Int)
  rw [ht] at hc
  have hg := gave (newMp (m : Int)) n (by omega)
  have he : (newMp (m : Int)).many n = some ((newMp (m : Int)).gives n) := by
    unfold Mp.many
    rw [if_neg (by omega), Int.toNat_natCast]
  unfold manyC manyL manyM
  rw [he]
  refine ⟨rfl, hg.len, hg.nodup, fun i hi => ?_, hg.tot.trans ht⟩
  obtain ⟨h0, _⟩ := hg.was i hi
  obtain ⟨g4, gt, _⟩ := Mp.is_iff.1 h0
  refine ⟨Mp.is_iff.2 ⟨g4, by show _ < ((newMp (m : Int)).gives n).2.tot; rw [hg.tot]; exact gt, by show ((newMp (m : Int)).gives n).2.st i = 1; rw [hg.st, if_pos hi]⟩, by omega, g4⟩
/-! ### What is saved -/
section
variable {P P' : Pw} {l : List UInt8} {at_ : List Nat} {M : List (List PtrV)} {q : PtrV}
theorem flat_sum : ∀ M : List (List PtrV), M.flatten.length = (M.map List.length).sum
  | [] => rfl
  | a :: r => by simp [flat_sum r]
theorem Saved.len_all (h : Saved P P' l at_ M q) : M.flatten.length = needF l.length := by
  rw [flat_sum, h.blob.lens, List.sum_reverse]
  rfl
theorem Saved.right (h : Saved P P' l at_ M q) {r : PtrV} (hr : r ∈ M.flatten) : r ≠ hole0 ∧ rightQ r = true ∧ PtrOk r := by
  obtain ⟨lv, h1, h2⟩ := List.mem_flatten.1 hr
  exact h.blob.right lv h1 r h2
theorem Saved.place_perm (h : Saved P P' l at_ M q) : (M.flatten.map fun r => r.1).Perm (natI at_) := by
  rw [← h.place]
  exact ((List.reverse_perm M).flatten.map _).symm
theorem Saved.nodup (h : Saved P P' l at_ M q) (hn : at_.Nodup) : (M.flatten.map fun r => r.1).Nodup := by
  refine h.place_perm.nodup_iff.2 ?_
  unfold natI
  exact List.Pairwise.map _ (fun a b hab => by omega) hn
theorem Saved.in_at (h : Saved P P' l at_ M q) {r : PtrV} (hr : r ∈ M.flatten) : ∃ i ∈ at_, r.1 = (i : Int) := by
  have := h.place_perm.mem_iff.1 (List.mem_map_of_mem (f := fun r : PtrV => r.1) hr)
  obtain ⟨i, hi, e⟩ := List.mem_map.1 this
  exact ⟨i, hi, e.symm⟩
theorem Saved.at_in (h : Saved P P' l at_ M q) {i : Nat} (hi : i ∈ at_) : ∃ r ∈ M.flatten, r.1 = (i : Int) := by
  have := h.place_perm.mem_iff.2 (List.mem_map_of_mem (f := fun n : Nat => (n : Int)) hi)
  obtain ⟨r, hr, e⟩ := List.mem_map.1 this
  exact ⟨r, hr, e⟩
theorem Saved.head (h : Saved P P' l at_ M q) : ∃ r, M.flatten = q :: r := by
  obtain ⟨r, hr⟩ := h.blob.top
  exact ⟨r.flatten, by rw [hr]; rfl⟩
/-- The root is written last. -/
theorem Saved.root_at (h : Saved P P' l at_ M q) : ∃ xs x, at_ = xs ++ [x] ∧ q.1 = ((x : Nat) : Int) := by
  obtain ⟨r, hr⟩ := h.blob.top
  have hp := h.place
  rw [hr] at hp
  simp only [List.reverse_cons, List.flatten_append, List.flatten_cons, List.flatten_nil, List.append_nil, List.map_append, List.map_cons, List.map_nil] at hp
  have hne : at_ ≠ [] := fun e => by
    rw [e] at hp
    simp [natI] at hp
  refine ⟨at_.dropLast, at_.getLast hne, (List.dropLast_concat_getLast hne).symm, ?_⟩
  have h2 : natI at_ = natI at_.dropLast ++ [((at_.getLast hne : Nat) : Int)] := by
    have e := List.dropLast_concat_getLast hne
    conv => lhs; rw [← e]
    simp [natI]
  rw [h2] at hp
  have h3 := List.append_inj_right' hp rfl
  simpa using h3
theorem Saved.root_ok (h : Saved P P' l at_ M q) : PtrOk q := by
  obtain ⟨r, hr⟩ := h.head
  exact (h.right (r := q) (by rw [hr]; exact List.mem_cons_self ..)).2.2
theorem Saved.load (h : Saved P P' l at_ M q) : loadF (getS P') q l.length = (l, M.flatten, 0) := by
  rw [load_any h.blob, if_pos h.good]
/-! ### One sector spoilt -/
theorem BlobG.turn {G G' : PtrV → Sec × Int} (h : BlobG G l M q) (hG : ∀ r ∈ M.flatten, G' r = G r ∨ G' r = (zsec, 91)) : BlobG G' l M q := by
  have key : ∀ lv ∈ M, ∀ i (hi : i < lv.length) (x : Sec), (G lv[i] = (x, 0) ∨ G lv[i] = (zsec, 91)) → (G' lv[i] = (x, 0) ∨ G' lv[i] = (zsec, 91)) := fun lv hlv i hi x hx => by
    rcases hG lv[i] (List.mem_flatten.2 ⟨lv, hlv, List.getElem_mem hi⟩) with e | e
    · rw [e]; exact hx
    · exact .inr e
  have hch : ∀ N : List (List PtrV), (∀ lv ∈ N, lv ∈ M) → Chain G N → Chain G' N := by
    intro N
    induction N with
    | nil => exact fun _ h => h
    | cons hi r ih =>
      cases r with
      | nil => exact fun _ h => h
      | cons lo r =>
        intro hN h
        exact ⟨⟨h.1.len, h.1.right, fun i hi2 => key hi (hN hi (List.mem_cons_self ..)) i hi2 _ (h.1.node i hi2)⟩, ih (fun lv hlv => hN lv (List.mem_cons_of_mem _ hlv)) h.2⟩
  have hlast : lastL M ∈ M := by
    obtain ⟨r, hr⟩ := h.top
    have : ∀ (N : List (List PtrV)), N ≠ [] → lastL N ∈ N := by
      intro N
      induction N with
      | nil => exact fun h => absurd rfl h
      | cons a r ih =>
        cases r with
        | nil => exact fun _ => List.mem_singleton.2 rfl
        | cons b r => exact fun _ => List.mem_cons_of_mem _ (ih (by simp))
    exact this M (by rw [hr]; simp)
  exact ⟨h.n, h.lens, h.right, h.top, hch M (fun _ h => h) h.chain, fun i hi => key _ hlast i hi _ (h.text i hi)⟩
theorem getS_rot {P : Pw} {i : Int} {s : Sec} {r : PtrV} (hne : r.1 ≠ i) : getS (rotW P i s) r = getS P r := by
  unfold rotW
  by_cases hh : hasF P.nw.length i = true
  · rw [if_pos hh]
    unfold getS
    simp only [List.length_set]
    by_cases h0 : r = hole0
    · rw [if_pos h0, if_pos h0]
    · rw [if_neg h0, if_neg h0]
      by_cases hr : hasF P.nw.length r.1 = true
      · rw [if_pos hr, if_pos hr]
        have hn : i.toNat ≠ r.1.toNat := by
          unfold hasF at hh hr
          rw [decide_eq_true_iff] at hh hr
          omega
        rw [List.getD_eq_getElem?_getD, List.getElem?_set_ne hn, ← List.getD_eq_getElem?_getD]
      · rw [if_neg hr, if_neg hr]
  · rw [if_neg hh]
theorem getS_rotted {P : Pw} {r : PtrV} {s : Sec} (h0 : r ≠ hole0) (hh : hasF P.nw.length r.1 = true) : getS (rotW P r.1 s) r = if (sumS s : Int) = r.2.2 then (s, 0) else (zsec, 91) := by
  unfold rotW getS
  rw [if_pos hh, if_neg h0]
  simp only [List.length_set]
  rw [if_pos hh]
  have hi : r.1.toNat < P.nw.length := by
    unfold hasF at hh
    rw [decide_eq_true_iff] at hh
    omega
  rw [List.getD_eq_getElem?_getD, List.getElem?_set_self hi]
  rfl
theorem rot_same {P : Pw} {i : Int} {s : Sec} (h : (readS P i).1 = s) (h2 : hasF P.nw.length i = true) : (rotW P i s).nw = P.nw ∧ getS (rotW P i s) = getS P := by
  have hi : i.toNat < P.nw.length := by
    unfold hasF at h2
    rw [decide_eq_true_iff] at h2
    omega
  unfold readS at h
  rw [if_pos h2] at h
  have hx : P.nw.set i.toNat s = P.nw := by
    rw [← h]
    simp [List.getD, hi]
  unfold rotW
  rw [if_pos h2, hx]
  exact ⟨rfl, rfl⟩
/-- What is read of a pointer that is good. -/
theorem good_read {P : Pw} {r : PtrV} (h0 : r ≠ hole0) (h : (getS P r).2 = 0) : hasF P.nw.length r.1 = true ∧ (getS P r).1 = (readS P r.1).1 ∧ (sumS (readS P r.1).1 : Int) = r.2.2 := by
  unfold getS at h ⊢
  rw [if_neg h0] at h ⊢
  by_cases hh : hasF P.nw.length r.1 = true
  · rw [if_pos hh] at h ⊢
    by_cases hs : (sumS (P.nw.getD r.1.toNat zsec) : Int) = r.2.2
    · rw [if_pos hs]
      unfold readS
      rw [if_pos hh]
      exact ⟨hh, rfl, hs⟩
    · rw [if_neg hs] at h
      exact absurd h (by decide)
  · rw [if_neg hh] at h
    exact absurd h (by decide)
theorem nodup_inj {α : Type} {l : List α} (h : l.Nodup) {i j : Nat} (hi : i < l.length) (hj : j < l.length) (e : l[i] = l[j]) : i = j := by
  have hp := List.pairwise_iff_getElem.1 h
  rcases Nat.lt_trichotomy i j with h1 | h1 | h1
  · exact absurd e (hp i j hi hj h1)
  · exact h1
  · exact absurd e.symm (hp j i hj hi h1)
/-- One sector turned: the text is had as it was, or it is told. -/
theorem Saved.spoilt (h : Saved P P' l at_ M q) (hn : at_.Nodup) {r : PtrV} (hr : r ∈ M.flatten) {s : Sec} :
    (s = (readS P' r.1).1 → loadF (getS (rotW P' r.1 s)) q l.length = (l, M.flatten, 0)) ∧ (s ≠ (readS P' r.1).1 → (getS (rotW P' r.1 s) r).2 = 0 ∨ loadF (getS (rotW P' r.1 s)) q l.length = ([], [], 91)) := by
  have hok : ∀ x ∈ M.flatten, (getS P' x).2 = 0 := fun x hx => by
    obtain ⟨lv, h1, h2⟩ := List.mem_flatten.1 hx
    have h3 := List.all_eq_true.1 h.good lv h1
    have h4 := List.all_eq_true.1 h3 x h2
    exact beq_iff_eq.1 h4
  have h0 := (h.right hr).1
  obtain ⟨hh, _, _⟩ := good_read h0 (hok r hr)
  constructor
  · intro e
    rw [(rot_same e.symm hh).2]
    exact h.load
  · intro _
    rw [getS_rotted h0 hh]
    by_cases hs : (sumS s : Int) = r.2.2
    · rw [if_pos hs]
      exact .inl rfl
    · rw [if_neg hs]
      right
      have hbad : getS (rotW P' r.1 s) r = (zsec, 91) := by rw [getS_rotted h0 hh, if_neg hs]
      have hone : ∀ x ∈ M.flatten, getS (rotW P' r.1 s) x = getS P' x ∨ getS (rotW P' r.1 s) x = (zsec, 91) := fun x hx => by
        by_cases hx1 : x.1 = r.1
        · have : x = r := by
            obtain ⟨i, hi, rfl⟩ := List.getElem_of_mem hx
            obtain ⟨j, hj, rfl⟩ := List.getElem_of_mem hr
            have hnd := h.nodup hn
            have hij := nodup_inj hnd (i := i) (j := j) (by rw [List.length_map]; exact hi) (by rw [List.length_map]; exact hj) (by rw [List.getElem_map, List.getElem_map]; exact hx1)
            subst hij
            rfl
          right
          rw [this]
          exact hbad
        · exact .inl (getS_rot hx1)
      rw [load_any (h.blob.turn hone), if_neg]
      intro hall
      obtain ⟨lv, h1, h2⟩ := List.mem_flatten.1 hr
      have h3 := List.all_eq_true.1 hall lv h1
      have h4 := List.all_eq_true.1 h3 r h2
      have h5 := beq_iff_eq.1 h4
      rw [hbad] at h5
      exact absurd h5 (by decide)
end
end
section
open Go.RowKit

theorem natI_app (a b : List Nat) : natI (a ++ b) = natI a ++ natI b := by simp [natI]
theorem natI_len (a : List Nat) : (natI a).length = a.length := by simp [natI]
theorem ownI_new (w : World) (base : Nat) (hb : base ≤ w.heap.size) : OwnI (w.alloc (.cells #[] 3)) base (.slice (some ⟨w.heap.size, 0, none⟩) 0 0) (natI []) := by
  have h := World.ownsRow_lit (base := base) (e := 3) (size := 1) w #[] 0 hb (by simp [maxLen]) rfl
  simpa [OwnI, ints, natI] using h
/-- The levels that are left. -/
structure LvS (n : Nat) (kk : Nat) (acc : List Nat) : Prop where
  ex : ∃ f, kk ≤ 8 ^ f ∧ levels n = acc ++ (lvF (f + 1) kk).tail
  lo : 1 ≤ kk
  hi : kk ≤ 512
  len : acc.length ≤ 1000
theorem lvS_first {n : Nat} (h : 1 ≤ n ∧ n ≤ 65535) : LvS n ((n + 127) / 128) [(n + 127) / 128] := by
  refine ⟨⟨3, by omega, ?_⟩, by omega, by omega, by simp⟩
  rw [levels_yes h]
  obtain ⟨r, hr⟩ := lvF_pos 4 ((n + 127) / 128)
  rw [show 3 + 1 = 4 from rfl, hr]
  rfl
theorem lvS_next {n kk : Nat} {acc : List Nat} (h : LvS n kk acc) (hk : 1 < kk) (hl : acc.length ≤ 900) : LvS n ((kk + 7) / 8) (acc ++ [(kk + 7) / 8]) := by
  obtain ⟨f, h1, h2⟩ := h.ex
  obtain ⟨g, rfl⟩ : ∃ g, f = g + 1 := ⟨f - 1, by
    rcases f with _ | f
    · simp at h1; omega
    · rfl⟩
  have h3 : lvF (g + 1 + 1) kk = kk :: lvF (g + 1) ((kk + 7) / 8) := by
    show (if kk ≤ 1 then [kk] else kk :: lvF (g + 1) ((kk + 7) / 8)) = _
    rw [if_neg (by omega)]
  rw [h3] at h2
  have h8 := h.hi
  refine ⟨⟨g, ?_, ?_⟩, by omega, by omega, by rw [List.length_append]; show _ + 1 ≤ _; omega⟩
  · rw [Nat.pow_succ] at h1
    omega
  · obtain ⟨r, hr⟩ := lvF_pos (g + 1) ((kk + 7) / 8)
    rw [hr] at h2 ⊢
    rw [h2]
    simp
theorem lvS_last {n kk : Nat} {acc : List Nat} (h : LvS n kk acc) (hk : ¬ 1 < kk) : levels n = acc := by
  obtain ⟨f, _, h2⟩ := h.ex
  have h3 : lvF (f + 1) kk = [kk] := by
    show (if kk ≤ 1 then [kk] else kk :: lvF f ((kk + 7) / 8)) = _
    rw [if_pos (by omega)]
  rw [h3] at h2
  simpa using h2
set_option maxHeartbeats 1000000 in
theorem rlevels_any (n : Int) (w : World) (hn : I64 n) : Calls Try.prog 26 #[.int .i64 n] w fun e w' => ∃ v, e = .returned v ∧ OwnI w' w.heap.size v (natI (levels n.toNat)) ∧ Below w.heap.size w w' := by
  by_cases h : 1 ≤ n ∧ n ≤ 65535
  · obtain ⟨k, rfl⟩ := Int.eq_ofNat_of_zero_le (show 0 ≤ n by omega)
    rw [Int.toNat_natCast]
    have hk1 : (1 : Int) ≤ (k : Int) := h.1
    have hk2 : (k : Int) ≤ 65535 := h.2
    have hk0 : ¬ (k : Int) < 1 := by omega
    have hk3 : ¬ (65535 : Int) < (k : Int) := by omega
    have HF := Lib.hid (lvS_first (n := k) (by omega))
    have hdv : ((k : Int) + 127).tdiv 128 = (((k + 127) / 128 : Nat) : Int) := by rw [Int.tdiv_eq_ediv_of_nonneg (by omega)]; omega
    have HO := Lib.hid (ownI_new w w.heap.size (Nat.le_refl _))
    have HB := Lib.hid ((Below.refl w.heap.size w).alloc (Nat.le_refl _) (.cells #[] 3))
    have HL : Hid (w.heap.size < (w.alloc (.cells #[] 3)).heap.size) := Lib.hid (by simp)
    clear h hn
    go_enter Try.func26, Try.ntmps26
    go_upto_region 2 with (fail)
    generalize (Value.slice (some ⟨w.heap.size, 0, none⟩) 0 0) = v0 at *
    generalize w.alloc (.cells #[] 3) = w1 at *
    have hbs : w.heap.size ≤ w1.heap.size := Nat.le_of_lt HL.out
    go_upto_region 5 with (fail)
    rw [show ((k : Int) + 127) / 128 = (((k + 127) / 128 : Nat) : Int) by omega]
    generalize (k + 127) / 128 = q0 at *
    have hlq := HF.out.hi
    go_wp2_with (at_builtin; refine app_int rfl 16 18 rfl w.heap.size _ (natI []) rfl HO.out (q0 : Int) rfl hbs (by simp [natI]) ?_; intro v2 w2 hown hgr)
    have HB2 : Hid (Below w.heap.size w w2) := Lib.hid (below_own (HB.out.alloc hbs _) (World.ownsRow.alloc HO.out _) (Nat.le_refl _) (by simp; omega) hgr)
    have HO2 : Hid (OwnI w2 w.heap.size v2 (natI [q0])) := Lib.hid hown
    clear hown hgr HO HB HL
    go_loopw [3, 4] (fun v i wr => ∃ (kk : Nat) (acc : List Nat), i = .int .i64 (kk : Int) ∧ LvS k kk acc ∧ acc.length + kk ≤ 600 ∧ OwnI wr w.heap.size v (natI acc) ∧ Below w.heap.size w wr) (fun _ i _ => (intOf i).toNat)
    case atStart => exact ⟨q0, [q0], rfl, HF.out, by show 1 + q0 ≤ 600; omega, HO2.out, HB2.out⟩
    case round =>
      clear HO2 HB2 HF hbs
      obtain ⟨kk, acc, rfl, hlv, hac, hown, hb⟩ := hrel
      have hsz := hb.size
      by_cases h1 : 1 < kk
      · have h1i : (1 : Int) < (kk : Int) := by omega
        have hk5 : (kk : Int) ≤ 512 := by have := hlv.hi; omega
        have HN := Lib.hid (lvS_next hlv h1 (by omega))
        have HM : Hid ((kk + 7) / 8 < kk) := Lib.hid (by omega)
        have HA := Lib.hid hac
        have HO := Lib.hid hown
        have HB := Lib.hid hb
        clear hlv hac hown hb h1
        go_upto_region 8 with (fail)
        rw [show ((kk : Int) + 7) / 8 = (((kk + 7) / 8 : Nat) : Int) by omega]
        generalize (kk + 7) / 8 = q1 at *
        go_wp2_with (at_builtin; refine app_int rfl 25 27 rfl w.heap.size _ (natI acc) rfl HO.out (q1 : Int) rfl hsz (by rw [natI_len]; have := HA.out; omega) ?_; intro v2 w2 hown hgr)
        go_roundw
        case rel => exact ⟨q1, acc ++ [q1], rfl, HN.out, by rw [List.length_append]; show _ + 1 + q1 ≤ 600; have := HA.out; have := HM.out; omega, by rw [natI_app]; exact hown, below_own (HB.out.alloc hsz _) (World.ownsRow.alloc HO.out _) (Nat.le_refl _) (by simp; omega) hgr⟩
        case measure => have := HM.out; simp [intOf]; omega
      · have h1i : ¬ (1 : Int) < (kk : Int) := by omega
        have HE := Lib.hid (lvS_last hlv h1)
        have HO := Lib.hid hown
        have HB := Lib.hid hb
        clear hlv hac hown hb h1
        go_wp2_with fail
        go_ret
        exact ⟨_, rfl, by rw [HE.out]; exact HO.out, HB.out⟩
  · have hlv : levels n.toNat = [] := levels_no (by omega)
    rw [hlv]
    have HO := Lib.hid (ownI_new w w.heap.size (Nat.le_refl _))
    have HB := Lib.hid ((Below.refl w.heap.size w).alloc (Nat.le_refl _) (.cells #[] 3))
    by_cases h1 : n < 1
    · clear h hn hlv
      go_enter Try.func26, Try.ntmps26
      go_wp2_with fail
      go_ret
      exact ⟨_, rfl, HO.out, HB.out⟩
    · have h2 : 65535 < n := by omega
      clear h hn hlv
      go_enter Try.func26, Try.ntmps26
      go_wp2_with fail
      go_ret
      exact ⟨_, rfl, HO.out, HB.out⟩
end
section
open Go.RowKit

theorem sum_take_le (l : List Nat) (j : Nat) : (l.take j).sum ≤ l.sum := by
  have h := congrArg List.sum (List.take_append_drop j l)
  rw [List.sum_append] at h
  omega
theorem levels_small (n : Nat) : (levels n).sum ≤ 585 ∧ (levels n).length ≤ 5 := by
  by_cases h : 1 ≤ n ∧ n ≤ 65535
  · have hl : ∀ f k, (lvF f k).length ≤ f + 1 := by
      intro f
      induction f with
      | zero => exact fun k => Nat.le_refl _
      | succ f ih =>
        intro k
        unfold lvF
        split
        · simp
        · have := ih ((k + 7) / 8)
          rw [List.length_cons]
          omega
    exact ⟨(need_pos h).2.1, by rw [levels_yes h]; exact hl 4 _⟩
  · rw [levels_no h]
    exact ⟨by simp, by simp⟩
theorem ints_natI_at {l : List Nat} {k : Nat} (h : k < l.length) : (ints (natI l))[k]? = some (.int .i64 (l[k] : Int)) := by simp [ints, natI, h]
set_option maxHeartbeats 1000000 in
theorem rneed_any (n : Int) (w : World) (hn : I64 n) : Calls Try.prog 12 #[.int .i64 n] w fun e w' => e = .returned (.int .i64 (needF n.toNat : Int)) ∧ Below w.heap.size w w' := by
  have HLV := Lib.hid (rlevels_any n w hn)
  have hsm := levels_small n.toNat
  have HN : Hid (needF n.toNat = (levels n.toNat).sum) := rfl
  generalize needF n.toNat = nd at *
  generalize levels n.toNat = lv at *
  go_enter Try.func12, Try.ntmps12
  go_wp2_with (go_at_call 26; (with_reducible refine Calls.mono HLV.out ?_); rintro e w1 ⟨v, rfl, hown, hb1⟩; obtain ⟨A, c, hv, hr, _⟩ := own_rd hown; rw [natI_len] at hv; subst hv; have HR := Lib.hid hr; have HB := Lib.hid hb1; clear hown hr hb1 HLV)
  have hl5 : (lv.length : Int) ≤ 5 := by omega
  go_loopw [3, 9] (fun s i wr => ∃ (j : Nat), j ≤ lv.length ∧ i = .int .i64 (j : Int) ∧ s = .int .i64 ((lv.take j).sum : Int) ∧ Below w1.heap.size w1 wr) (fun _ i _ => lv.length - (intOf i).toNat)
  case atStart => exact ⟨0, Nat.zero_le _, rfl, rfl, Below.refl _ _⟩
  case round =>
    obtain ⟨j, hj, rfl, rfl, hb⟩ := hrel
    by_cases hlt : j < lv.length
    · have hji : (j : Int) < lv.length := by omega
      obtain ⟨b, off, rfl, hbl, hcell⟩ := HR.out (by rw [ints_len, natI_len]; omega)
      have hc := (hb.cell (p := ⟨b, off + j, none⟩) hbl).trans (hcell j _ (ints_natI_at hlt))
      have hs1 := sum_take_le lv j
      have hs2 := sum_take_le lv (j + 1)
      have HS := Lib.hid (List.take_succ_eq_append_getElem hlt)
      rw [HS.out, List.sum_append] at hs2
      generalize lv[j] = x at *
      obtain ⟨s, hs⟩ : ∃ s, s = (lv.take j).sum := ⟨_, rfl⟩
      have hs3 : s + x ≤ 585 := by simp only [List.sum_cons, List.sum_nil] at hs2; omega
      have hs4 : (s : Int) + (x : Int) ≤ 585 := by omega
      have hs5 : (0 : Int) ≤ (s : Int) + (x : Int) := by omega
      rw [← hs]
      have HJ := Lib.hid hlt
      have HB2 := Lib.hid hb
      have HS3 : Hid ((lv.take (j + 1)).sum = s + x) := Lib.hid (by rw [HS.out, List.sum_append, ← hs]; simp)
      clear hb hs hs1 hs2 hs3 HS hlt hj hcell
      go_wp2_with fail
      go_roundw
      case rel => exact ⟨j + 1, HJ.out, by go_num, by rw [HS3.out]; go_num, HB2.out⟩
      case measure => have := HJ.out; simp [intOf]; omega
    · obtain rfl : j = lv.length := by omega
      rw [List.take_of_length_le (Nat.le_refl _)] at *
      have HB2 := Lib.hid hb
      clear hb hlt hj
      go_wp2_with fail
      go_ret
      exact ⟨by rw [HN.out]; rfl, HB.out.trans (HB2.out.mono HB.out.size)⟩
end
section
open Go.RowKit

theorem made_zeros (n : Nat) : madeCells #[.int .u8 0] n = (bys (List.replicate n 0)).toArray := by
  refine Array.ext_getElem? fun k => ?_
  unfold madeCells bys
  by_cases h : k < n
  · simp [h, Nat.mod_one]
  · simp [h]
theorem make_zeros (n : Nat) (hn : n ≤ 1000000) (w : World) : (Instr.makeSlice 34 (.int .i64 (n : Int)) (.int .i64 (n : Int))).run Try.prog w = .ok (.slice (some ⟨w.heap.size, 0, none⟩) n n) (w.alloc (.cells (bys (List.replicate n 0)).toArray 5)) := by
  obtain ⟨i0, hi0, hz0, hz2, hz3⟩ := info_parts infoByte
  have h := run_make (P := Try.prog) w 34 5 i0 _ Try.underlying34 hi0 hz0 .i64 .i64 (n : Int) n (by omega) (Int.le_refl _) (by rw [hz3]; omega) (by omega)
  rw [hz2, Nat.mul_one, Int.toNat_natCast] at h
  rw [h, ← made_zeros]
  rfl
theorem bconv {w : World} {B : Nat} {A : Option Addr} {c : Nat} {l : List UInt8} (hs : Rd w B A (bys l)) :
    (convert 34 9 (.slice A l.length c)).run Try.prog w = .ok (.string (qstrF l)) w := by
  by_cases hn : 0 < l.length
  · obtain ⟨b, off, rfl, hbB, hc⟩ := hs (by rw [bys_len]; exact hn)
    have h := run_convert_bytes_arg (P := Try.prog) w 34 5 Try.underlying34 Try.underlying5 b off l.length c (l.map fun x => (x.toNat : Int)) (by simp) (fun i hi => by
      have h1 := hc i _ (bys_at l i hi)
      rw [h1]
      simp [List.getD, List.getElem?_map, List.getElem?_eq_getElem hi]) 9 Try.underlying9
    rw [h]
    congr 2
    simp only [qstrF, strOfNums, List.map_map]
    congr 2
    conv => rhs; rw [← List.map_id l]
    apply List.map_congr_left
    intro x _
    simp
  · obtain rfl : l = [] := List.eq_nil_of_length_eq_zero (by omega)
    rw [List.length_nil, run_convert_bytes_string w 34 9 5 A 0 c Try.underlying34 Try.underlying5 Try.underlying9]
    rcases A with _ | A <;> simp [Conv.bytesToString, loadCells, loadCellsFrom] <;> rfl
theorem below_alB (w : World) (o : Obj) : Below w.heap.size w (w.alloc o) := (Below.refl _ _).alloc (Nat.le_refl _) _
theorem st_ptB {ops : Array Oper} {rest : List Oper} {o : Oper} {act : Act} {w : World} {Q : Exit → Act → World → Prop} (hgd : o.guard = none) (x y : Operand) (ho : o.op = .store 25 x y)
    (g : Nat) (cs : Array Value) (a b s : Int) (hx : act.eval x = .pointer (some ⟨g, 0, none⟩)) (hy : act.eval y = ptv a b s) (hB : Blk w g 25 cs) (h3 : cs.size = 3)
    (h : ∀ w', Blk w' g 25 (pcs a b s) → (∀ O, O g → Chg w w' O) → wpList Try.prog ops Q rest (act.put o.dst undef) w') : wpList Try.prog ops Q (o :: rest) act w := by
  refine wpList_store_mid hgd _ x y ho g 0 (pcs a b s) hx hy (hB.there 0 3 (by omega)) ptr_size (by simp [Value.oneCell']) ?_
  exact h _ (hB.setAll [.int .i64 a, .int .u64 b, .int .u32 s] (by rw [h3]; rfl)) fun O hO => Chg.setCells (.inl hO) _ _ (Chg.refl _ _)
theorem aliveT_arr : (bys (List.replicate 300 0)).toArray.setIfInBounds 299 (.int .u8 7) = (bys (List.replicate 299 0 ++ [7])).toArray := by kernel_rfl
theorem BlkA.rdA {w : World} {O : Nat → Prop} {g : Nat} {t : TypeId} {l : List UInt8} (h : BlkA w O g t (bys l).toArray) : RdA w O (some ⟨g, 0, none⟩) (bys l) :=
  ⟨fun _ => ⟨g, 0, rfl, h.blk.lt, fun j v hv => by rw [h.blk.cell, Nat.zero_add, List.getElem?_toArray]; exact hv⟩, fun b off e _ ho => by
    simp only [Option.some.injEq, Addr.mk.injEq, and_true] at e
    exact h.far (e.1 ▸ ho)⟩
def aliveT : List UInt8 := List.replicate 299 0 ++ [7]
theorem aliveT_len : aliveT.length = 300 := by simp [aliveT]
theorem need300 : needF 300 = 4 := by decide +kernel
theorem bmany4 : manyL (newMp ((64 : Nat) : Int)) ((4 : Nat) : Int) = [4, 5, 6, 7] := by decide +kernel
/-- So many sectors of a new pile of m. -/
structure Places (m n : Nat) (at_ : List Nat) (M : Mp) : Prop where
  len : at_.length = n
  nodup : at_.Nodup
  is : ∀ i ∈ at_, M.is 1 i = true ∧ i < m ∧ 4 ≤ i
  tot : M.tot = m
  eq : at_ = manyL (newMp (m : Int)) (n : Int)
def pwM (m : Nat) (M : Mp) : Pw := ⟨(newPw (m : Int)).nw, M, 1, 0, 0⟩
theorem pwM_ok {m n : Nat} {at_ : List Nat} {M : Mp} (h : Places m n at_ M) (hm : m ≤ 1024) : OkW (pwM m M) := by
  have hl : (newPw (m : Int)).nw.length = m := by show (List.replicate (min (max (m : Int) 0) 1024).toNat zsec).length = m; rw [List.length_replicate]; omega
  refine ⟨by show M.tot ≤ (newPw (m : Int)).nw.length; rw [hl, h.tot]; exact Nat.le_refl _, by show M.tot ≤ 1024; rw [h.tot]; exact hm, Nat.le_refl _, by show 1 ≤ 281474976710655; omega⟩
section
variable {At : World → (Nat → Prop) → Nat → Pw → Prop}
theorem foot_neB (L : BlobCalls At) {w : World} {O : Nat → Prop} {g : Nat} {P : Pw} (h : At w O g P) : ¬ O w.heap.size := fun ho => by have := L.foot h _ ho; omega
theorem mk_many (L : BlobCalls At) {w : World} {O : Nat → Prop} {g : Nat} (m n : Nat) (h4 : 4 ≤ m) (hm : m ≤ 1024) (hn : n ≤ m - 4) (h : At w O g (newPw (m : Int))) : ∃ gm, Calls Try.prog 13 #[.pointer (some ⟨g, 0, none⟩)] w fun e w' => e = .returned (.pointer (some ⟨gm, 0, none⟩)) ∧ Below w.heap.size w w' ∧
    ∀ w2, Below w'.heap.size w' w2 → Calls Try.prog 14 #[.pointer (some ⟨gm, 0, none⟩), .int .i64 (n : Int)] w2 fun e w3 => ∃ O' A c at_ M, e = .returned (.tuple #[.slice A (at_ : List Nat).length c, .int .i64 0]) ∧ At w3 O' g (pwM m M) ∧ RdA w3 O' A (ints (natI at_)) ∧ Step w2 w3 O O' ∧ Places m n at_ M ∧ at_.length ≤ c := by
  obtain ⟨a1, a2, a3, a4, a5⟩ := new_many m n h4 hm hn
  obtain ⟨gm, hc⟩ := L.map h
  refine ⟨gm, hc.mono ?_⟩
  rintro e w' ⟨e1, hb, hk⟩
  refine ⟨e1, hb, fun w2 hb2 => (hk w2 n hb2 (by omega)).mono ?_⟩
  rintro e w3 ⟨O', A, c, e2, k1, k2, k3, k4⟩
  refine ⟨O', A, c, manyL (newMp (m : Int)) n, manyM (newMp (m : Int)) n, ?_, k1, k2.toRdA, k3, ⟨a2, a3, a4, a5, rfl⟩, by rw [← natI_len]; exact k4⟩
  have h1 : manyC (newPw (m : Int)).m n = 0 := a1
  rw [e2, h1, natI_len]
  rfl
set_option maxHeartbeats 2000000 in
theorem blobAlive_any (L : BlobCalls At) (w : World) : Calls Try.prog 10 #[] w fun e w' => e = .returned (.bool true) ∧ Below w.heap.size w w' := by
  have HM := Lib.hid (L.made 64 w (by omega))
  have HND : Hid (∀ w', Calls Try.prog 11 #[.int .i64 300] w' fun e w2 => e = .returned (.int .i64 4) ∧ Below w'.heap.size w' w2) := Lib.hid (fun w' => by
    have h := L.need 300 w' (by unfold I64; omega)
    rwa [show (300 : Int).toNat = 300 from rfl, need300] at h)
  go_enter Try.func10, Try.ntmps10
  go_upto_region 2 with (go_at_call 9; (with_reducible refine Calls.mono HM.out ?_); rintro e w1 ⟨O1, g, rfl, h1, hO1, hb1⟩; have HB1 := Lib.hid (HasB.first (Below.refl w.heap.size w) h1 hO1 hb1); clear h1 hO1 hb1 HM)
  obtain ⟨gm, hmap⟩ := mk_many L 64 4 (by omega) (by omega) (by omega) HB1.out.at_
  have HMP := Lib.hid hmap
  clear hmap
  go_upto_region 3 with (first
    | (go_at_call 13; (with_reducible refine Calls.mono HMP.out ?_); rintro e w2 ⟨rfl, hb2, hmn⟩; have HMN := Lib.hid (hmn w2 (Below.refl _ _)); have HB2 := Lib.hid (HB1.out.far L hb2); clear hmn hb2 HMP)
    | (go_at_call 14; (with_reducible refine Calls.mono HMN.out ?_); rintro e w3 ⟨O3, A3, c3, at_, M, rfl, h3, r3, s3, hpl, hcp⟩; have HB3 := Lib.hid (show HasB At w w3 O3 g _ from ⟨h3, fun j hj => (s3.new j hj).elim (HB1.out.lo j) (fun h => Nat.le_trans HB2.out.below.size h), HB2.out.below.trans (s3.chg.below HB1.out.lo HB2.out.below.size)⟩); have HR3 := Lib.hid r3; have HPL := Lib.hid (And.intro hpl hcp); clear HMN h3 r3 s3 hpl hcp))
  have hmk := fun w => make_zeros 300 (by omega) w
  rw [show ((300 : Nat) : Int) = 300 from rfl] at hmk
  obtain ⟨Z, hZ⟩ : ∃ Z, Z = (bys (List.replicate 300 0)).toArray := ⟨_, rfl⟩
  rw [← hZ] at hmk
  have HZ := Lib.hid hZ
  clear hZ
  go_upto_region 4 with fail
  have hZb := Blk.new w3 5 Z
  have hc299 : (w3.alloc (.cells Z 5)).cell? ⟨w3.heap.size, 299, none⟩ = some (.int .u8 0) := (hZb.cell 299).trans (by rw [HZ.out]; kernel_rfl)
  have hf299 := hZb.frozen 299
  have hb4 := below_alB w3 (.cells Z 5)
  have HB4 := Lib.hid (HB3.out.far L hb4)
  have HR4 := Lib.hid (HR3.out.far hb4)
  have HF4 := Lib.hid (foot_neB L HB3.out.at_)
  have HZ4 := Lib.hid hZb
  have HL4 := Lib.hid (HB3.out.below.size)
  have HA4 : Hid (∀ b off, A3 = some ⟨b, off, none⟩ → 0 < (ints (natI at_)).length → b < w3.heap.size) := Lib.hid fun b off e hn => by
    obtain ⟨b', off', e', hl, _⟩ := HR3.out.rd hn
    rw [e] at e'
    simp only [Option.some.injEq, Addr.mk.injEq, and_true] at e'
    omega
  clear hZb hb4 HB3 HR3 HB2 HB1
  generalize w3.alloc (.cells Z 5) = w4 at *
  generalize w3.heap.size = gt at *
  go_upto_region 5 with fail
  have hch : Chg w4 (w4.setCell ⟨gt, 299, none⟩ (.int .u8 7)) (· = gt) := (Chg.refl w4 (· = gt)).setCell (p := ⟨gt, 299, none⟩) (.inl rfl) _
  have hZ5 : Blk (w4.setCell ⟨gt, 299, none⟩ (.int .u8 7)) gt 5 (bys aliveT).toArray := by
    have h := HZ4.out.set_ 299 (.int .u8 7)
    rw [HZ.out, aliveT_arr] at h
    exact h
  have HB5 : Hid (HasB At w (w4.setCell ⟨gt, 299, none⟩ (.int .u8 7)) O3 g (pwM 64 M)) := Lib.hid ⟨L.stay HB4.out.at_ hch fun k ho e => HF4.out (e ▸ ho), HB4.out.lo, HB4.out.below.trans (hch.below (fun k e => by subst e; exact HL4.out) HB4.out.below.size)⟩
  have HT5 : Hid (BlkA (w4.setCell ⟨gt, 299, none⟩ (.int .u8 7)) O3 gt 5 (bys aliveT).toArray) := Lib.hid ⟨hZ5, HF4.out⟩
  have HR5 : Hid (RdA (w4.setCell ⟨gt, 299, none⟩ (.int .u8 7)) O3 A3 (ints (natI at_))) := Lib.hid ⟨fun hn => by
    obtain ⟨b, off, e, hl, hcell⟩ := HR4.out.rd hn
    have hne : b ≠ gt := fun hbe => by
      have hb := HA4.out b off e hn
      omega
    exact ⟨b, off, e, Nat.lt_of_lt_of_le hl hch.size, fun j v hv => (hch.cell hl hne _).trans (hcell j v hv)⟩, HR4.out.apart⟩
  clear hch hZ5 HB4 HR4 HZ4 HA4 HF4 hc299 hf299
  generalize w4.setCell ⟨gt, 299, none⟩ (.int .u8 7) = w5 at *
  have SAVE : Hid (Calls Try.prog 8 #[.pointer (some ⟨g, 0, none⟩), .slice (some ⟨gt, 0, none⟩) 300 300, .slice A3 at_.length c3] w5 fun e w' => ∃ O' P' q M', e = .returned (.tuple #[ptq q, .int .i64 0]) ∧ At w' O' g P' ∧ Step w5 w' O3 O' ∧ Saved (pwM 64 M) P' aliveT at_ M' q) := Lib.hid (by
    have hr : RdA w5 O3 (some ⟨gt, 0, none⟩) (bys aliveT) := HT5.out.rdA
    have h := L.save (some ⟨gt, 0, none⟩) A3 300 c3 aliveT at_ HB5.out.at_ (pwM_ok HPL.out.1 (by omega)) (by rw [aliveT_len]; omega) (by rw [aliveT_len]; omega) (by rw [aliveT_len, need300]; exact HPL.out.1.len) HPL.out.1.nodup (fun i hi => (HPL.out.1.is i hi).1) hr (by rw [aliveT_len]; omega) HR5.out HPL.out.2 (by show 0 ≤ 900000; omega)
    rwa [aliveT_len] at h)
  go_upto_region 6 with (first
    | (go_at_call 8; (with_reducible refine Calls.mono SAVE.out ?_); rintro e w6 ⟨O6, P6, ⟨qa, qb, qc⟩, M6, rfl, h6, s6, hsv⟩; have HB6 := Lib.hid (HB5.out.step h6 s6); have HT6 := Lib.hid (HT5.out.step s6); have HSV := Lib.hid hsv; clear h6 s6 hsv SAVE)
    | (refine st_ptB rfl (.tmp 5) (.tmp 25) rfl w6.heap.size (pcs 0 0 0) qa qb qc rfl rfl (Blk.new w6 _ _) rfl ?_; intro w7 hb7 hc7))
  have hch7 := hc7 (· = w6.heap.size) rfl
  have hb67 : Below w6.heap.size w6 w7 := (below_alB w6 (.cells (pcs 0 0 0) 25)).trans (hch7.below (fun k e => by subst e; exact Nat.le_refl _) (below_alB w6 (.cells (pcs 0 0 0) 25)).size)
  have HB7 := Lib.hid (HB6.out.far L hb67)
  have HT7 := Lib.hid (HT6.out.later hb67)
  have HQ7 : Hid (BlkA w7 O6 w6.heap.size 25 (pcs qa qb qc)) := Lib.hid ⟨hb7, foot_neB L HB6.out.at_⟩
  have hqok := HSV.out.root_ok
  have LOAD : Hid (Calls Try.prog 15 #[.pointer (some ⟨g, 0, none⟩), ptv qa qb qc, .int .i64 300] w7 fun e w' => ∃ O' A c B d, e = .returned (.tuple #[.slice A 300 c, .slice B 4 d, .int .i64 0]) ∧ At w' O' g P6 ∧ RdF w7 w' O' A (bys aliveT) ∧ RdF w7 w' O' B (pqs M6.flatten) ∧ Step w7 w' O6 O') := Lib.hid (by
    have h := L.load (qa, qb, qc) 300 hqok (by unfold I64; omega) HB7.out.at_
    rw [show (300 : Int).toNat = aliveT.length by rw [aliveT_len]; rfl, HSV.out.load, aliveT_len] at h
    simp only at h
    rw [HSV.out.len_all, aliveT_len, need300] at h
    exact h)
  clear hb7 hc7 hch7 hb67 HB6 HT6 hqok HB5 HT5 HR5 hmk HZ
  generalize w6.heap.size = gq at *
  go_upto_region 7 with (first
    | (refine ld_ptr rfl (.tmp 5) rfl gq 25 qa qb qc rfl HQ7.out.blk ?_)
    | (go_at_call 15; (with_reducible refine Calls.mono LOAD.out ?_); rintro e w8 ⟨O8, A8, c8, B8, d8, rfl, h8, ra8, rb8, s8⟩; have HB8 := Lib.hid (HB7.out.step h8 s8); have HT8 := Lib.hid (HT7.out.step s8); have HQ8 := Lib.hid (HQ7.out.step s8); have HRA := Lib.hid ra8.toRdA; have HRB := Lib.hid rb8.toRdA; clear h8 s8 ra8 rb8 LOAD))
  obtain ⟨xs, x, hxs, hqx⟩ := HSV.out.root_at
  have hx7 : qa = 7 := by
    have h1 : at_ = [4, 5, 6, 7] := HPL.out.1.eq.trans bmany4
    rw [h1] at hxs
    have h2 : [4, 5, 6] ++ [7] = xs ++ [x] := hxs
    have h3 := List.append_inj_right' h2 rfl
    simp only [List.cons.injEq, and_true] at h3
    subst h3
    exact hqx
  subst hx7
  obtain ⟨rr, hrr⟩ := HSV.out.head
  have hlen : M6.flatten.length = 4 := by rw [HSV.out.len_all, aliveT_len, need300]
  rw [hrr] at HRB hlen
  obtain ⟨bb, off, rfl, hbl, hcell⟩ := HRB.out.rd (by rw [pqs_len, hlen]; omega)
  have hr0 := hcell 0 (.int .i64 7) rfl
  have hr1 := hcell 1 (.int .u64 qb) rfl
  have hr2 := hcell 2 (.int .u32 qc) rfl
  have HR := Lib.hid (And.intro hbl (And.intro hr0 (And.intro hr1 hr2)))
  have hqe := fun w => run_eqP 7 qb qc 7 qb qc w
  simp only [beq_self_eq_true, Bool.and_self] at hqe
  clear hr0 hr1 hr2 hbl hcell HRB hlen hrr hxs hqx HSV HPL
  have HDW := Lib.hid (Below.refl w8.heap.size w8).drew
  have HN8 := Lib.hid (HND.out w8.drew)
  refine wp_region_held_drew (S := (fun w' => Below w8.heap.size w8 w')) (by kernel_rfl) HDW.out (fun hHeld => ?_)
  generalize hwd : w8.drew = wd at *
  clear hwd
  refine wpAnyH_ready (rs := [0]) (by kernel_rfl) (by simp) ?_
  refine AllReadyH.cons rfl (fun K hK => ?_) AllReadyH.nil
  go_simp
  refine Calls.mono (HN8.out) ?_
  rintro e wX ⟨rfl, hbX⟩
  refine hK.out _ _ (HDW.out.trans (hbX.mono HDW.out.size)) (fun hHeld2 => ?_)
  clear hK K
  try simp
  clear hHeld
  have hHeld := hHeld2
  clear hHeld2
  have HBX := Lib.hid (HDW.out.trans (hbX.mono HDW.out.size))
  clear hbX HN8 HDW
  refine wpAnyH_take (i := 1) (v := (.bool true)) rfl (by kernel_rfl) (by kernel_rfl) (by kernel_rfl) (fun _ _ _ h => h) (Or.inl ⟨by rfl, ?_⟩) (by assumption) ?_
  · intro w' hS; go_simp; try with_reducible rfl
  try simp [Act.put]
  refine wpAnyH_take (i := 2) (v := (.bool true)) rfl (by kernel_rfl) (by kernel_rfl) (by kernel_rfl) (fun _ _ _ h => h) (Or.inl ⟨by rfl, ?_⟩) (by assumption) ?_
  · intro w' hS; go_simp; try with_reducible rfl
  try simp [Act.put]
  refine wpAnyH_take (i := 3) (v := (.int .i64 0)) rfl (by kernel_rfl) (by kernel_rfl) (by kernel_rfl) (fun _ _ _ h => h) (Or.inl ⟨by rfl, ?_⟩) (by assumption) ?_
  · intro w' hS; go_simp; try with_reducible rfl
  try simp [Act.put]
  refine wpAnyH_take (i := 4) (v := (.bool true)) rfl (by kernel_rfl) (by kernel_rfl) (by kernel_rfl) (fun _ _ _ h => h) (Or.inl ⟨by rfl, ?_⟩) (by assumption) ?_
  · intro w' hS; go_simp; try with_reducible rfl
  try simp [Act.put]
  refine wpAnyH_take (i := 5) (v := (.bool true)) rfl (by kernel_rfl) (by kernel_rfl) (by kernel_rfl) (fun _ _ _ h => h) (Or.inl ⟨by rfl, ?_⟩) (by assumption) ?_
  · intro w' hS; go_simp; try with_reducible rfl
  try simp [Act.put]
  refine wpAnyH_take (i := 6) (v := (.bool true)) rfl (by kernel_rfl) (by kernel_rfl) (by kernel_rfl) (fun _ _ _ h => h) (Or.inl ⟨by rfl, ?_⟩) (by assumption) ?_
  · intro w' hS; go_simp; try with_reducible rfl
  try simp [Act.put]
  refine wpAnyH_take (i := 7) (v := (.pointer (some ⟨gq, 0, none⟩))) rfl (by kernel_rfl) (by kernel_rfl) (by kernel_rfl) (fun _ _ _ h => h) (Or.inl ⟨by rfl, ?_⟩) (by assumption) ?_
  · intro w' hS; go_simp; try with_reducible rfl
  try simp [Act.put]
  refine wpAnyH_take (i := 8) (v := (.int .i64 7)) rfl (by kernel_rfl) (by kernel_rfl) (by kernel_rfl) (fun _ _ _ h => h) (Or.inl ⟨by rfl, ?_⟩) (by assumption) ?_
  · intro w' hS
    have hcc : w'.cell? ⟨gq, 0, none⟩ = some (.int .i64 7) := (HQ8.out.later hS).blk.cell 0
    go_simp; try with_reducible rfl
  try simp [Act.put]
  refine wpAnyH_take (i := 9) (v := (.bool true)) rfl (by kernel_rfl) (by kernel_rfl) (by kernel_rfl) (fun _ _ _ h => h) (Or.inl ⟨by rfl, ?_⟩) (by assumption) ?_
  · intro w' hS; go_simp; try with_reducible rfl
  try simp [Act.put]
  refine wpAnyH_take (i := 10) (v := (.bool true)) rfl (by kernel_rfl) (by kernel_rfl) (by kernel_rfl) (fun _ _ _ h => h) (Or.inl ⟨by rfl, ?_⟩) (by assumption) ?_
  · intro w' hS; go_simp; try with_reducible rfl
  try simp [Act.put]
  refine wpAnyH_take (i := 11) (v := (.bool true)) rfl (by kernel_rfl) (by kernel_rfl) (by kernel_rfl) (fun _ _ _ h => h) (Or.inl ⟨by rfl, ?_⟩) (by assumption) ?_
  · intro w' hS; go_simp; try with_reducible rfl
  try simp [Act.put]
  refine wpAnyH_take (i := 12) (v := (.int .i64 0)) rfl (by kernel_rfl) (by kernel_rfl) (by kernel_rfl) (fun _ _ _ h => h) (Or.inl ⟨by rfl, ?_⟩) (by assumption) ?_
  · intro w' hS; go_simp; try with_reducible rfl
  try simp [Act.put]
  refine wpAnyH_take (i := 13) (v := (.bool true)) rfl (by kernel_rfl) (by kernel_rfl) (by kernel_rfl) (fun _ _ _ h => h) (Or.inl ⟨by rfl, ?_⟩) (by assumption) ?_
  · intro w' hS; go_simp; try with_reducible rfl
  try simp [Act.put]
  refine wpAnyH_take (i := 14) (v := (.bool true)) rfl (by kernel_rfl) (by kernel_rfl) (by kernel_rfl) (fun _ _ _ h => h) (Or.inl ⟨by rfl, ?_⟩) (by assumption) ?_
  · intro w' hS; go_simp; try with_reducible rfl
  try simp [Act.put]
  refine wpAnyH_take (i := 15) (v := (.bool true)) rfl (by kernel_rfl) (by kernel_rfl) (by kernel_rfl) (fun _ _ _ h => h) (Or.inl ⟨by rfl, ?_⟩) (by assumption) ?_
  · intro w' hS; go_simp; try with_reducible rfl
  try simp [Act.put]
  refine wpAnyH_take (i := 16) (v := (.slice A8 300 c8)) rfl (by kernel_rfl) (by kernel_rfl) (by kernel_rfl) (fun _ _ _ h => h) (Or.inl ⟨by rfl, ?_⟩) (by assumption) ?_
  · intro w' hS; go_simp; try with_reducible rfl
  try simp [Act.put]
  refine wpAnyH_take (i := 17) (v := (.string (qstrF aliveT))) rfl (by kernel_rfl) (by kernel_rfl) (by kernel_rfl) (fun _ _ _ h => h) (Or.inl ⟨by rfl, ?_⟩) (by assumption) ?_
  · intro w' hS
    have hcc := bconv (c := c8) (HRA.out.far hS).rd
    rw [aliveT_len] at hcc
    go_simp; try with_reducible rfl
  try simp [Act.put]
  refine wpAnyH_take (i := 18) (v := (.slice (some ⟨gt, 0, none⟩) 300 300)) rfl (by kernel_rfl) (by kernel_rfl) (by kernel_rfl) (fun _ _ _ h => h) (Or.inl ⟨by rfl, ?_⟩) (by assumption) ?_
  · intro w' hS; go_simp; try with_reducible rfl
  try simp [Act.put]
  refine wpAnyH_take (i := 19) (v := (.string (qstrF aliveT))) rfl (by kernel_rfl) (by kernel_rfl) (by kernel_rfl) (fun _ _ _ h => h) (Or.inl ⟨by rfl, ?_⟩) (by assumption) ?_
  · intro w' hS
    have hcc := bconv (c := 300) (HT8.out.later hS).rdA.rd
    rw [aliveT_len] at hcc
    go_simp; try with_reducible rfl
  try simp [Act.put]
  refine wpAnyH_take (i := 20) (v := (.bool true)) rfl (by kernel_rfl) (by kernel_rfl) (by kernel_rfl) (fun _ _ _ h => h) (Or.inl ⟨by rfl, ?_⟩) (by assumption) ?_
  · intro w' hS; go_simp; try with_reducible rfl
  try simp [Act.put]
  refine wpAnyH_take (i := 21) (v := (.bool true)) rfl (by kernel_rfl) (by kernel_rfl) (by kernel_rfl) (fun _ _ _ h => h) (Or.inl ⟨by rfl, ?_⟩) (by assumption) ?_
  · intro w' hS; go_simp; try with_reducible rfl
  try simp [Act.put]
  refine wpAnyH_take (i := 22) (v := (.bool true)) rfl (by kernel_rfl) (by kernel_rfl) (by kernel_rfl) (fun _ _ _ h => h) (Or.inl ⟨by rfl, ?_⟩) (by assumption) ?_
  · intro w' hS; go_simp; try with_reducible rfl
  try simp [Act.put]
  refine wpAnyH_take (i := 23) (v := (.slice (some ⟨bb, off, none⟩) 4 d8)) rfl (by kernel_rfl) (by kernel_rfl) (by kernel_rfl) (fun _ _ _ h => h) (Or.inl ⟨by rfl, ?_⟩) (by assumption) ?_
  · intro w' hS; go_simp; try with_reducible rfl
  try simp [Act.put]
  refine wpAnyH_take (i := 24) (v := (.int .i64 4)) rfl (by kernel_rfl) (by kernel_rfl) (by kernel_rfl) (fun _ _ _ h => h) (Or.inl ⟨by rfl, ?_⟩) (by assumption) ?_
  · intro w' hS; go_simp; try with_reducible rfl
  try simp [Act.put]
  refine wpAnyH_take (i := 25) (v := (.bool true)) rfl (by kernel_rfl) (by kernel_rfl) (by kernel_rfl) (fun _ _ _ h => h) (Or.inl ⟨by rfl, ?_⟩) (by assumption) ?_
  · intro w' hS; go_simp; try with_reducible rfl
  try simp [Act.put]
  refine wpAnyH_take (i := 26) (v := (.bool true)) rfl (by kernel_rfl) (by kernel_rfl) (by kernel_rfl) (fun _ _ _ h => h) (Or.inl ⟨by rfl, ?_⟩) (by assumption) ?_
  · intro w' hS; go_simp; try with_reducible rfl
  try simp [Act.put]
  refine wpAnyH_take (i := 27) (v := (.bool true)) rfl (by kernel_rfl) (by kernel_rfl) (by kernel_rfl) (fun _ _ _ h => h) (Or.inl ⟨by rfl, ?_⟩) (by assumption) ?_
  · intro w' hS; go_simp; try with_reducible rfl
  try simp [Act.put]
  refine wpAnyH_take (i := 28) (v := (.slice (some ⟨bb, off, none⟩) 4 d8)) rfl (by kernel_rfl) (by kernel_rfl) (by kernel_rfl) (fun _ _ _ h => h) (Or.inl ⟨by rfl, ?_⟩) (by assumption) ?_
  · intro w' hS; go_simp; try with_reducible rfl
  try simp [Act.put]
  refine wpAnyH_take (i := 29) (v := (.pointer (some ⟨bb, off, none⟩))) rfl (by kernel_rfl) (by kernel_rfl) (by kernel_rfl) (fun _ _ _ h => h) (Or.inl ⟨by rfl, ?_⟩) (by assumption) ?_
  · intro w' hS; go_simp; try with_reducible rfl
  try simp [Act.put]
  refine wpAnyH_take (i := 30) (v := (ptv 7 qb qc)) rfl (by kernel_rfl) (by kernel_rfl) (by kernel_rfl) (fun _ _ _ h => h) (Or.inl ⟨by rfl, ?_⟩) (by assumption) ?_
  · intro w' hS
    exact ex_ldPo (.tmp 63) rfl bb off 7 qb qc rfl ((hS.cell (p := ⟨bb, off + 0, none⟩) HR.out.1).trans HR.out.2.1) ((hS.cell (p := ⟨bb, off + 1, none⟩) HR.out.1).trans HR.out.2.2.1) ((hS.cell (p := ⟨bb, off + 2, none⟩) HR.out.1).trans HR.out.2.2.2)
  try simp [Act.put]
  refine wpAnyH_take (i := 31) (v := (ptv 7 qb qc)) rfl (by kernel_rfl) (by kernel_rfl) (by kernel_rfl) (fun _ _ _ h => h) (Or.inl ⟨by rfl, ?_⟩) (by assumption) ?_
  · intro w' hS
    exact ex_ldP (.tmp 5) rfl gq 7 qb qc rfl (HQ8.out.later hS).blk
  try simp [Act.put]
  refine wpAnyH_take (i := 32) (v := (.bool true)) rfl (by kernel_rfl) (by kernel_rfl) (by kernel_rfl) (fun _ _ _ h => h) (Or.inl ⟨by rfl, ?_⟩) (by assumption) ?_
  · intro w' hS; go_simp; try with_reducible rfl
  try simp [Act.put]
  refine wpAnyH_take (i := 33) (v := (.bool true)) rfl (by kernel_rfl) (by kernel_rfl) (by kernel_rfl) (fun _ _ _ h => h) (Or.inl ⟨by rfl, ?_⟩) (by assumption) ?_
  · intro w' hS; go_simp; try with_reducible rfl
  try simp [Act.put]
  refine wpAnyH_take (i := 34) (v := (.bool true)) rfl (by kernel_rfl) (by kernel_rfl) (by kernel_rfl) (fun _ _ _ h => h) (Or.inl ⟨by rfl, ?_⟩) (by assumption) ?_
  · intro w' hS; go_simp; try with_reducible rfl
  try simp [Act.put]
  refine wpAnyH_done (by kernel_rfl) ?_ _
  clear hHeld
  go_wp2_with fail
  go_ret
  exact ⟨rfl, (HB8.out.far L HBX.out).below⟩
end
end
section
open Go.RowKit

section
variable {At : World → (Nat → Prop) → Nat → Pw → Prop}
set_option maxHeartbeats 1000000 in
theorem blobNames_any (L : BlobCalls At) (w : World) : Calls Try.prog 3 #[] w fun e w' => e = .returned (.bool true) ∧ Below w.heap.size w w' := by
  have HM := Lib.hid (L.made 64 w (by omega))
  have HA := Lib.hid (fun w' => blobAlive_any L w')
  go_enter Try.func3, Try.ntmps3
  go_wp2_with (first
    | (go_at_call 9; (with_reducible refine Calls.mono HM.out ?_); rintro e w1 ⟨O1, g, rfl, h1, hO1, hb1⟩; have HB1 := Lib.hid (HasB.first (Below.refl w.heap.size w) h1 hO1 hb1); have HS := Lib.hid (L.saveNo h1); clear h1 hO1 hb1 HM)
    | (go_at_call 8; (with_reducible refine Calls.mono HS.out ?_); rintro e w2 ⟨O2, rfl, h2, s2⟩; have HB2 := Lib.hid (HB1.out.step h2 s2); clear h2 s2 HS)
    | (refine st_ptB rfl (.tmp 1) (.tmp 6) rfl w2.heap.size (pcs 0 0 0) 0 0 0 rfl rfl (Blk.new w2 _ _) rfl ?_; intro w3 hb3 hc3
       have hch := hc3 (· = w2.heap.size) rfl
       have HW3 : Hid (Below w.heap.size w w3) := Lib.hid ((HB2.out.below.trans ((below_alB w2 (.cells (pcs 0 0 0) 25)).mono HB2.out.below.size)).trans (hch.below (fun k e => by subst e; exact HB2.out.below.size) (Nat.le_trans HB2.out.below.size (below_alB w2 (.cells (pcs 0 0 0) 25)).size)))
       clear hch hb3 hc3)
    | (go_at_call 10; (with_reducible refine Calls.mono (HA.out _) ?_); rintro e w4 ⟨rfl, hb4⟩; have HW4 := Lib.hid (HW3.out.trans (hb4.mono HW3.out.size)); clear hb4))
  go_ret
  exact ⟨rfl, HW4.out⟩
set_option maxHeartbeats 1000000 in
theorem blobNeeds_any (L : BlobCalls At) (w : World) (x0 : Int) (hx0 : I64 x0) : Calls Try.prog 4 #[.int .i64 x0] w fun e w' => e = .returned (.bool true) ∧ Below w.heap.size w w' := by
  have HA := Lib.hid (blobAlive_any L w)
  have HN := Lib.hid (fun w' => L.need x0 w' hx0)
  have HR := Lib.hid (fun w' => rneed_any x0 w' hx0)
  generalize needF x0.toNat = nd at *
  go_enter Try.func4, Try.ntmps4
  go_wp2_with (first
    | (go_at_call 10; (with_reducible refine Calls.mono HA.out ?_); rintro e w1 ⟨rfl, hb1⟩; have HB1 := Lib.hid hb1; clear hb1 HA)
    | (go_at_call 11; (with_reducible refine Calls.mono (HN.out _) ?_); rintro e w2 ⟨rfl, hb2⟩; have HB2 := Lib.hid (HB1.out.trans (hb2.mono HB1.out.size)); clear hb2 HN)
    | (go_at_call 12; (with_reducible refine Calls.mono (HR.out _) ?_); rintro e w3 ⟨rfl, hb3⟩; have HB3 := Lib.hid (HB2.out.trans (hb3.mono HB2.out.size)); clear hb3 HR))
  go_ret
  exact ⟨rfl, HB3.out⟩
set_option maxHeartbeats 1000000 in
theorem blobGrows_any (L : BlobCalls At) (w : World) (x0 : Int) (hx0 : I64 x0) : Calls Try.prog 7 #[.int .i64 x0] w fun e w' => e = .returned (.bool true) ∧ Below w.heap.size w w' := by
  have HA := Lib.hid (blobAlive_any L w)
  have HN := Lib.hid (fun w' => L.need x0 w' hx0)
  by_cases h : 1 ≤ x0 ∧ x0 < 65535
  · obtain ⟨n, rfl⟩ := Int.eq_ofNat_of_zero_le (show 0 ≤ x0 by omega)
    have HN2 : Hid (∀ w', Calls Try.prog 11 #[.int .i64 ((n : Int) + 1)] w' fun e w2 => e = .returned (.int .i64 (needF (n + 1) : Int)) ∧ Below w'.heap.size w' w2) := Lib.hid (fun w' => by
      have h := L.need ((n : Int) + 1) w' (by unfold I64; omega)
      rwa [show ((n : Int) + 1).toNat = n + 1 by omega] at h)
    rw [Int.toNat_natCast] at HN
    obtain ⟨g1, g2⟩ := need_grows (n := n) (by omega) (by omega)
    obtain ⟨_, g3, g4, g5⟩ := need_pos (n := n) ⟨by omega, by omega⟩
    have h1 : ¬ (n : Int) < 1 := by omega
    have h2 : ¬ (65535 : Int) ≤ (n : Int) := by omega
    have h3 : (n : Int) < 65535 := by omega
    have h4 : (0 : Int) ≤ (n : Int) := by omega
    generalize needF n = k at *
    generalize needF (n + 1) = m at *
    obtain ⟨pl, hpl⟩ : ∃ pl, pl = (n + 127) / 128 := ⟨_, rfl⟩
    have hpi : ((n : Int) + 127) / 128 = (pl : Int) := by omega
    have hpj : (pl : Int) / 7 = ((pl / 7 : Nat) : Int) := by omega
    rw [← hpl] at g4 g5
    have hpl2 : pl ≤ 512 := by omega
    generalize hp7 : pl / 7 = p7 at *
    have k1 : (k : Int) ≤ (m : Int) := by omega
    have k2 : (m : Int) ≤ (k : Int) + 4 := by omega
    have k3 : (pl : Int) ≤ (k : Int) := by omega
    have k4 : (k : Int) ≤ (pl : Int) + (p7 : Int) + 3 := by omega
    have k5 : (k : Int) ≤ 585 := by omega
    have k6 : (pl : Int) ≤ 512 := by omega
    have k7 : (p7 : Int) ≤ 512 := by omega
    clear g1 g2 g3 g4 g5 h hp7 hpl hpl2
    have d1 : decide ((n : Int) < 1) = false := decide_eq_false h1
    have d2 : decide ((65535 : Int) ≤ (n : Int)) = false := decide_eq_false h2
    have hsm : ((n : Int) + 1 : Int) ≤ 65535 := by omega
    clear h1 h2 h3
    go_enter Try.func7, Try.ntmps7
    go_upto_region 3 with (go_at_call 10; (with_reducible refine Calls.mono HA.out ?_); rintro e w1 ⟨rfl, hb1⟩; have HB1 := Lib.hid hb1; clear hb1 HA)
    go_wp2_with (first
      | (go_at_call 11; (with_reducible refine Calls.mono (HN.out _) ?_); rintro e w2 ⟨rfl, hb2⟩; have HB2 := Lib.hid (HB1.out.trans (hb2.mono HB1.out.size)); clear hb2 HN)
      | (go_at_call 11; (with_reducible refine Calls.mono (HN2.out _) ?_); rintro e w3 ⟨rfl, hb3⟩; have HB3 := Lib.hid (HB2.out.trans (hb3.mono HB2.out.size)); clear hb3 HN2))
    go_ret
    exact ⟨rfl, HB3.out⟩
  · by_cases h1 : x0 < 1
    · have hz : needF x0.toNat = 0 := need_no (by omega)
      rw [hz] at HN
      clear h
      go_enter Try.func7, Try.ntmps7
      go_wp2_with (first
        | (go_at_call 10; (with_reducible refine Calls.mono HA.out ?_); rintro e w1 ⟨rfl, hb1⟩; have HB1 := Lib.hid hb1; clear hb1 HA)
        | (go_at_call 11; (with_reducible refine Calls.mono (HN.out _) ?_); rintro e w2 ⟨rfl, hb2⟩; have HB2 := Lib.hid (HB1.out.trans (hb2.mono HB1.out.size)); clear hb2 HN))
      go_ret
      exact ⟨rfl, HB2.out⟩
    · by_cases h2 : x0 = 65535
      · subst h2
        generalize needF (65535 : Int).toNat = nd at *
        clear h h1
        cases nd with
        | zero =>
          go_enter Try.func7, Try.ntmps7
          go_wp2_with (first
            | (go_at_call 10; (with_reducible refine Calls.mono HA.out ?_); rintro e w1 ⟨rfl, hb1⟩; have HB1 := Lib.hid hb1; clear hb1 HA)
            | (go_at_call 11; (with_reducible refine Calls.mono (HN.out _) ?_); rintro e w2 ⟨rfl, hb2⟩; have HB2 := Lib.hid (HB1.out.trans (hb2.mono HB1.out.size)); clear hb2 HN))
          go_ret
          exact ⟨rfl, HB2.out⟩
        | succ nd =>
          have hne : (((nd + 1 : Nat) : Int) == 0) = false := by rw [beq_eq_false_iff_ne]; omega
          go_enter Try.func7, Try.ntmps7
          go_wp2_with (first
            | (go_at_call 10; (with_reducible refine Calls.mono HA.out ?_); rintro e w1 ⟨rfl, hb1⟩; have HB1 := Lib.hid hb1; clear hb1 HA)
            | (go_at_call 11; (with_reducible refine Calls.mono (HN.out _) ?_); rintro e w2 ⟨rfl, hb2⟩; have HB2 := Lib.hid (HB1.out.trans (hb2.mono HB1.out.size)); clear hb2 HN))
          go_ret
          exact ⟨rfl, HB2.out⟩
      · have hz : needF x0.toNat = 0 := need_no (by omega)
        rw [hz] at HN
        have d1 : decide (x0 < 1) = false := decide_eq_false h1
        have d2 : decide ((65535 : Int) ≤ x0) = true := decide_eq_true (by omega)
        clear h h1 h2
        go_enter Try.func7, Try.ntmps7
        go_wp2_with (first
          | (go_at_call 10; (with_reducible refine Calls.mono HA.out ?_); rintro e w1 ⟨rfl, hb1⟩; have HB1 := Lib.hid hb1; clear hb1 HA)
          | (go_at_call 11; (with_reducible refine Calls.mono (HN.out _) ?_); rintro e w2 ⟨rfl, hb2⟩; have HB2 := Lib.hid (HB1.out.trans (hb2.mono HB1.out.size)); clear hb2 HN))
        go_ret
        exact ⟨rfl, HB2.out⟩
end
end
section
open Go.RowKit

/-- append([]byte{}, t...): a copy that no pile has, with its room. -/
theorem app_bytesC {ops : Array Oper} {rest : List Oper} {o : Oper} {a : Act} {w : World} {Q : Exit → Act → World → Prop} (hgd : o.guard = none) (s x : Nat)
    (ho : o.op = .call { callee := .builtin .append, args := #[.tmp s, .tmp x], argTypes := #[34, 34] })
    (hs : a.eval (.tmp s) = .slice (some ⟨w.heap.size, 0, none⟩) 0 0) (B : Nat) (A : Option Addr) (m c : Nat) (t : List UInt8) (O : Nat → Prop)
    (hx : a.eval (.tmp x) = .slice A m c) (hm : t.length = m) (hr : Rd (w.alloc (.cells #[] 5)) B A (bys t)) (hn : m ≤ 140737488355328) (hO : ∀ k, O k → k < w.heap.size)
    (h : ∀ A' c' w', RdA w' O A' (bys t) → t.length ≤ c' → Below w.heap.size w w' → wpList Try.prog ops Q rest (a.put o.dst (.slice A' m c')) w') :
    wpList Try.prog ops Q (o :: rest) a (w.alloc (.cells #[] 5)) := by
  subst hm
  have hE : (w.alloc (.cells #[] 5)).ownsRow w.heap.size 5 1 (.slice (some ⟨w.heap.size, 0, none⟩) 0 0) 0 [] := World.ownsRow_lit (base := w.heap.size) (e := 5) (size := 1) w #[] 0 (Nat.le_refl _) (by simp [maxLen]) rfl
  refine app_all Try.underlying34 infoByte rfl hgd s x ho w.heap.size _ 0 [] hs hE B A t.length c _ hx (by rw [bys_len]) hr bys_one (by simp) (by omega) (by omega) ?_
  intro v' w' h1 h2
  simp only [Nat.zero_add, List.nil_append] at h1
  obtain ⟨A', c', rfl, hX, hcc⟩ := own_rd h1
  refine h A' c' w' ⟨hX, fun b off e hp ho => ?_⟩ hcc (below_own ((Below.refl _ _).alloc (Nat.le_refl _) _) hE (Nat.le_refl _) (by simp) h2)
  rw [bys_len] at hp
  obtain ⟨g, cap, e2, hN, _⟩ := own_form h1 hp
  rw [e] at e2
  simp only [Value.slice.injEq, Option.some.injEq, Addr.mk.injEq] at e2
  have := hO b ho
  omega
theorem st_rowB {T : TypeId} {ops : Array Oper} {rest : List Oper} {o : Oper} {a : Act} {w : World} {Q : Exit → Act → World → Prop} (hgd : o.guard = none) (x y : Operand) (ho : o.op = .store T x y)
    (g : Nat) (cs cs' : Array Value) (hx : a.eval x = .pointer (some ⟨g, 0, none⟩)) (hy : a.eval y = .agg cs') (hg : Blk w g T cs) (hz : (Try.prog.info? T).map (·.size) = some cs'.size) (hs : cs.size = cs'.size) (h1 : cs'.all (·.oneCell') = true)
    (h : ∀ w', Blk w' g T cs' → Chg w w' (· = g) → wpList Try.prog ops Q rest (a.put o.dst undef) w') : wpList Try.prog ops Q (o :: rest) a w :=
  wpList_store_row hgd _ x y ho g cs' hx hy T cs hg hz hs h1
    (h _ (by unfold Blk at hg ⊢; simp [World.setRow, Array.getElem?_modify, hg]) ⟨rfl, rfl, rfl, by simp, fun k hk hn => by
      simp only [World.setRow, Array.getElem?_modify]
      rw [if_neg (fun e => hn e.symm)]⟩)
theorem size1024 (p : Nat → Bool) : (Try.prog.info? 43).map (·.size) = some (bs64 p 1024).size := by
  have e : (bs64 p 1024).size = 1024 := by simp [bs64]
  have h : (Try.prog.info? 43).map (·.size) = some 1024 := by kernel_rfl
  rw [h, e]
theorem build1024 (w : World) : (Instr.build 43 #[]).run Try.prog w = .ok (.agg (bs64 (fun _ => false) 1024)) w := by
  refine run_build w _ _ _ ?_
  kernel_rfl
theorem info1024 : (Try.prog.info? 43).map (fun i => i.zero) = some (some (.agg (bs64 (fun _ => false) 1024))) := by kernel_rfl
theorem zero1024 (w : World) : Sem.run Try.prog (zeroValue 43) w = .ok (.agg (bs64 (fun _ => false) 1024)) w := by
  obtain ⟨i, hi⟩ : ∃ i, Try.prog.info? 43 = some i := info_of_underlying Try.underlying43
  have h := info1024
  rw [hi] at h
  simp only [Option.map_some, Option.some.injEq] at h
  simp [zeroValue, typeInfo, hi, h]
theorem one1024 (p : Nat → Bool) (n : Nat) : (bs64 p n).all (·.oneCell') = true := all_one (cs := (List.range n).map fun i => Value.bool (p i)) fun v h => by
  simp only [List.mem_map] at h
  obtain ⟨i, _, rfl⟩ := h
  rfl
section
variable {At : World → (Nat → Prop) → Nat → Pw → Prop}
theorem mk_manyN (L : BlobCalls At) {w : World} {O : Nat → Prop} {g : Nat} (m n : Nat) (h4 : 4 ≤ m) (hm : m ≤ 1024) (hn : n ≤ m - 4) (h : At w O g (newPw (m : Int))) : ∃ gm, Calls Try.prog 13 #[.pointer (some ⟨g, 0, none⟩)] w fun e w' => e = .returned (.pointer (some ⟨gm, 0, none⟩)) ∧ Below w.heap.size w w' ∧
    ∀ w2, Below w'.heap.size w' w2 → Calls Try.prog 14 #[.pointer (some ⟨gm, 0, none⟩), .int .i64 (n : Int)] w2 fun e w3 => ∃ O' A c at_ M, e = .returned (.tuple #[.slice A n c, .int .i64 0]) ∧ At w3 O' g (pwM m M) ∧ RdA w3 O' A (ints (natI at_)) ∧ Step w2 w3 O O' ∧ Places m n at_ M ∧ n ≤ c := by
  obtain ⟨gm, hc⟩ := mk_many L m n h4 hm hn h
  refine ⟨gm, hc.mono ?_⟩
  rintro e w' ⟨e1, hb, hk⟩
  refine ⟨e1, hb, fun w2 hb2 => (hk w2 hb2).mono ?_⟩
  rintro e w3 ⟨O', A, c, at_, M, e2, k1, k2, k3, k4, k5⟩
  exact ⟨O', A, c, at_, M, by rw [e2, k4.len], k1, k2, k3, k4, by rw [← k4.len]; exact k5⟩
/-- Save of a text that no pile has, in so many sectors. -/
theorem mk_save (L : BlobCalls At) {w : World} {O : Nat → Prop} {g m n : Nat} {M : Mp} {l : List UInt8} {at_ : List Nat} {A A3 : Option Addr} {c c3 : Nat} (hm : m ≤ 1024) (h : At w O g (pwM m M)) (hp : Places m n at_ M) (hn : n = needF l.length) (hl : 1 ≤ l.length ∧ l.length ≤ 65535) (hr : RdA w O A (bys l)) (hc : l.length ≤ c) (hr3 : RdA w O A3 (ints (natI at_))) (hc3 : n ≤ c3) :
    Calls Try.prog 8 #[.pointer (some ⟨g, 0, none⟩), .slice A l.length c, .slice A3 n c3] w fun e w' => ∃ O' P' q M', e = .returned (.tuple #[ptq q, .int .i64 0]) ∧ At w' O' g P' ∧ Step w w' O O' ∧ Saved (pwM m M) P' l at_ M' q := by
  have h1 := L.save A A3 c c3 l at_ h (pwM_ok hp hm) hl.1 hl.2 (by rw [hp.len, hn]) hp.nodup (fun i hi => (hp.is i hi).1) hr hc hr3 (by rw [hp.len]; exact hc3) (by show 0 ≤ 900000; omega)
  rwa [hp.len] at h1
/-- Load of what was saved. -/
theorem mk_load (L : BlobCalls At) {w : World} {O : Nat → Prop} {g n : Nat} {P P' : Pw} {l : List UInt8} {at_ : List Nat} {M : List (List PtrV)} {q : PtrV} (h : At w O g P') (hs : Saved P P' l at_ M q) (hn : n = needF l.length) (hl : l.length ≤ 65535) :
    Calls Try.prog 15 #[.pointer (some ⟨g, 0, none⟩), ptq q, .int .i64 (l.length : Int)] w fun e w' => ∃ O' A c B d, e = .returned (.tuple #[.slice A l.length c, .slice B n d, .int .i64 0]) ∧ At w' O' g P' ∧ RdF w w' O' A (bys l) ∧ RdF w w' O' B (pqs M.flatten) ∧ Step w w' O O' := by
  have h1 := L.load q (l.length : Int) hs.root_ok (by unfold I64; omega) h
  rw [Int.toNat_natCast, hs.load] at h1
  simp only at h1
  rw [hs.len_all, ← hn] at h1
  exact h1
end
end
end Go.Proofs.Ytdcegkeaopjbnaa
