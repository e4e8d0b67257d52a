/- Rows of pointers; a copy of bytes that is new; texts in memory. Piles as mathematics: what is put and had. -/
import Derived.Test.YtddhacmaogaocaaO4

set_option maxRecDepth 10000
namespace Go.Proofs.Ytddhacmaogaocaa
open Go.RowKit

def pqs (l : List PtrV) : List Value := l.flatMap fun q => [.int .i64 q.1, .int .u64 q.2.1, .int .u32 q.2.2]
theorem pqs_len : ∀ l : List PtrV, (pqs l).length = l.length * 3
  | [] => rfl
  | q :: r => by
    have := pqs_len r
    simp only [pqs, List.flatMap_cons, List.length_append, List.length_cons, List.length_nil] at this ⊢
    omega
theorem pqs_snoc (l : List PtrV) (q : PtrV) : pqs (l ++ [q]) = pqs l ++ [.int .i64 q.1, .int .u64 q.2.1, .int .u32 q.2.2] := by simp [pqs]
theorem pqs_at : ∀ (l : List PtrV) (k : Nat) (h : k < l.length), (pqs l)[k * 3]? = some (.int .i64 l[k].1) ∧ (pqs l)[k * 3 + 1]? = some (.int .u64 l[k].2.1) ∧ (pqs l)[k * 3 + 2]? = some (.int .u32 l[k].2.2)
  | q :: r, 0, _ => ⟨rfl, rfl, rfl⟩
  | q :: r, k + 1, h => by
    have := pqs_at r k (by simpa using h)
    rw [show (k + 1) * 3 = k * 3 + 1 + 1 + 1 by omega]
    exact this
theorem pq_at {w : World} {B : Nat} {A : Option Addr} {l : List PtrV} (h : Rd w B A (pqs l)) (k : Nat) (hk : k < l.length) :
    ∃ b off, A = some ⟨b, off, none⟩ ∧ b < B ∧ w.cell? ⟨b, off + k * 3, none⟩ = some (.int .i64 l[k].1) ∧ w.cell? ⟨b, off + k * 3 + 1, none⟩ = some (.int .u64 l[k].2.1) ∧ w.cell? ⟨b, off + k * 3 + 2, none⟩ = some (.int .u32 l[k].2.2) := by
  obtain ⟨h1, h2, h3⟩ := pqs_at l k hk
  obtain ⟨b, off, rfl, hl, hc⟩ := h (by rw [pqs_len]; omega)
  exact ⟨b, off, rfl, hl, hc _ _ h1, hc _ _ h2, hc _ _ h3⟩
theorem infoPtr : (Try.prog.info? 32).map (fun i => (i.zero, i.size, i.bytes)) = some (some (ptv 0 0 0), 3, 24) := by kernel_rfl
def OwnQ (w : World) (base : Nat) (v : Value) (l : List PtrV) : Prop := w.ownsRow base 32 3 v l.length (pqs l)
/-- append of one pointer that lies in the newest block. -/
theorem app_ptr {ops : Array Oper} {rest : List Oper} {o : Oper} {a : Act} {w : World} {Q : Exit → Act → World → Prop} (hgd : o.guard = none) (s x : Nat)
    (ho : o.op = .call { callee := .builtin .append, args := #[.tmp s, .tmp x], argTypes := #[36, 36] })
    (base : Nat) (v : Value) (l : List PtrV) (hs : a.eval (.tmp s) = v) (hown : OwnQ w base v l) (q : PtrV)
    (g0 : Nat) (hg : g0 = w.heap.size) (hx : a.eval (.tmp x) = .slice (some ⟨g0, 0, none⟩) 1 1) (hbase : base ≤ w.heap.size) (hn : l.length ≤ 1048576)
    (h : ∀ v' w', OwnQ w' base v' (l ++ [q]) → (w.alloc (.cells (pcs q.1 q.2.1 q.2.2) 32)).grownBy w' v.ownBlock → (∀ k, v'.ownBlock = some k → v.ownBlock = some k ∨ w.heap.size ≤ k) → wpList Try.prog ops Q rest (a.put o.dst v') w') :
    wpList Try.prog ops Q (o :: rest) a (w.alloc (.cells (pcs q.1 q.2.1 q.2.2) 32)) := by
  subst hg
  obtain ⟨i0, hi0, hz0, hz2, hz3⟩ := info_parts infoPtr
  refine wpList_append_lies _ hgd (.tmp s) (.tmp x) _ ho base 32 i0 _ 3 24 Try.underlying36 hi0 hz0 hz2 hz3 rfl (by omega) v l.length (pqs l) hs (World.ownsRow.alloc hown _)
    ⟨w.heap.size, 0, none⟩ 1 1 [.int .i64 q.1, .int .u64 q.2.1, .int .u32 q.2.2] hx rfl (rd_add (rd_new w (pcs q.1 q.2.1 q.2.2) 32)) (by simp [Value.oneCell']) (by omega) (by simp only [maxLen]; omega) (by omega) (by simp; omega) (w.heap.size + 1) (by simp) ?_
  intro g cap w' h1 h2 h3 _
  refine h _ w' ?_ h2 ?_
  · show w'.ownsRow base 32 3 _ (l ++ [q]).length (pqs (l ++ [q]))
    rw [pqs_snoc, List.length_append]
    exact h1
  · intro k hk
    rcases h3 with h3 | h3
    · left; rw [h3, ← hk]; rfl
    · right
      have : g = k := by simpa [Value.ownBlock] using hk
      omega
/-- append([]byte{}, t...): a copy that no pile has. -/
theorem app_bytes {ops : Array Oper} {rest : List Oper} {o : Oper} {a : Act} {w : World} {Q : Exit → Act → World → Prop} (hgd : o.guard = none) (s x : Nat)
    (ho : o.op = .call { callee := .builtin .append, args := #[.tmp s, .tmp x], argTypes := #[37, 37] })
    (hs : a.eval (.tmp s) = .slice (some ⟨w.heap.size, 0, none⟩) 0 0) (B : Nat) (A : Option Addr) (m c : Nat) (t : List UInt8) (O : Nat → Prop)
    (hx : a.eval (.tmp x) = .slice A m c) (hm : t.length = m) (hr : Rd (w.alloc (.cells #[] 5)) B A (bys t)) (hn : m ≤ 140737488355328) (hO : ∀ k, O k → k < w.heap.size)
    (h : ∀ A' c' w', RdA w' O A' (bys t) → Below w.heap.size w w' → wpList Try.prog ops Q rest (a.put o.dst (.slice A' m c')) w') :
    wpList Try.prog ops Q (o :: rest) a (w.alloc (.cells #[] 5)) := by
  subst hm
  have hE : (w.alloc (.cells #[] 5)).ownsRow w.heap.size 5 1 (.slice (some ⟨w.heap.size, 0, none⟩) 0 0) 0 [] := World.ownsRow_lit (base := w.heap.size) (e := 5) (size := 1) w #[] 0 (Nat.le_refl _) (by simp [maxLen]) rfl
  refine app_all Try.underlying37 infoByte rfl hgd s x ho w.heap.size _ 0 [] hs hE B A t.length c _ hx (by rw [bys_len]) hr bys_one (by simp) (by omega) (by omega) ?_
  intro v' w' h1 h2
  simp only [Nat.zero_add, List.nil_append] at h1
  obtain ⟨A', c', rfl, hX, _⟩ := own_rd h1
  refine h A' c' w' ⟨hX, fun b off e hp ho => ?_⟩ (below_own ((Below.refl _ _).alloc (Nat.le_refl _) _) hE (Nat.le_refl _) (by simp) h2)
  rw [bys_len] at hp
  obtain ⟨g, cap, e2, hN, _⟩ := own_form h1 hp
  rw [e] at e2
  simp only [Value.slice.injEq, Option.some.injEq, Addr.mk.injEq] at e2
  have := hO b ho
  omega
/-! ### Texts in memory -/
abbrev Tx := Option Addr × Nat × List UInt8
def txv (t : Tx) : Value := .slice t.1 t.2.2.length t.2.1
def txs (l : List Tx) : List Value := l.map txv
def TxIn (w : World) (B : Nat) (l : List Tx) : Prop := ∀ t ∈ l, Rd w B t.1 (bys t.2.2) ∧ t.2.2.length ≤ t.2.1
theorem txs_len (l : List Tx) : (txs l).length = l.length := by simp [txs]
theorem txs_at (l : List Tx) (k : Nat) (h : k < l.length) : (txs l)[k]? = some (.slice l[k].1 l[k].2.2.length l[k].2.1) := by simp [txs, txv, h]
theorem tx_at {w : World} {B : Nat} {A : Option Addr} {l : List Tx} (h : Rd w B A (txs l)) (k : Nat) (hk : k < l.length) :
    ∃ b off, A = some ⟨b, off, none⟩ ∧ b < B ∧ w.cell? ⟨b, off + k, none⟩ = some (.slice l[k].1 l[k].2.2.length l[k].2.1) := h.at_ k _ (txs_at l k hk)
theorem TxIn.below {w w' : World} {B : Nat} {l : List Tx} (h : TxIn w B l) (hb : Below B w w') : TxIn w' B l := fun t ht => ⟨(h t ht).1.below hb, (h t ht).2⟩

/-! ### What is put and had -/
/-- Behind k puts of the texts bs, many of them good: the pile P, the pointers qs. -/
structure Puts (bs : List (List UInt8)) (k many : Nat) (P : Pw) (qs : List PtrV) : Prop where
  len : qs.length = k
  nwl : P.nw.length = 64
  tot : P.m.tot = 64
  st : P.st = 1
  cnt : P.m.count + many = 60
  N : P.N = many
  le : many ≤ k
  each : ∀ j, j < k → ∀ h2 : j < bs.length, (128 < bs[j].length ∧ qs.getD j hole0 = hole0) ∨ (¬ 128 < bs[j].length ∧ ∃ i : Nat, qs.getD j hole0 = ((i : Int), 1, (sumS (blockS bs[j]) : Int)) ∧ P.m.is 1 i = true ∧ P.nw.getD i zsec = blockS bs[j])
theorem puts_zero (bs : List (List UInt8)) : Puts bs 0 0 (newPw 64) [] := ⟨rfl, new64_len, rfl, rfl, count_new 64, rfl, Nat.le_refl _, fun j h => by omega⟩
theorem getD_set (l : List Sec) (i j : Nat) (x : Sec) (hj : j < l.length) : (l.set i x).getD j zsec = if i = j then x else l.getD j zsec := by
  by_cases h : i = j
  · subst h
    rw [if_pos rfl]
    simp [List.getD, hj]
  · rw [if_neg h]
    simp [List.getD, List.getElem?_set_ne h]
theorem puts_long {bs : List (List UInt8)} {k many : Nat} {P : Pw} {qs : List PtrV} (h : Puts bs k many P qs) (hk : k < bs.length) (hl : 128 < bs[k].length) : Puts bs (k + 1) many P (qs ++ [hole0]) := by
  refine { h with len := by simp [h.len], le := Nat.le_succ_of_le h.le, each := fun j hj h2 => ?_ }
  by_cases e : j = k
  · subst e
    exact .inl ⟨hl, by simp [List.getD, ← h.len]⟩
  · have := h.each j (by omega) h2
    have e2 : (qs ++ [hole0]).getD j hole0 = qs.getD j hole0 := by
      simp only [List.getD]
      rw [List.getElem?_append_left (by rw [h.len]; omega)]
    rw [e2]
    exact this
theorem puts_good {bs : List (List UInt8)} {k many i : Nat} {P : Pw} {qs : List PtrV} (h : Puts bs k many P qs) (hk : k < bs.length) (hl : ¬ 128 < bs[k].length) (hi : P.m.next = some i) :
    Puts bs (k + 1) (many + 1) ⟨P.nw.set i (blockS bs[k]), P.m.put i 1, P.st, P.ba, P.N + 1⟩ (qs ++ [((i : Int), 1, (sumS (blockS bs[k]) : Int))]) := by
  obtain ⟨h0, h1024, _⟩ := next_some hi
  obtain ⟨g4, gt, _⟩ := Mp.is_iff.1 h0
  have hi64 : i < 64 := by have := h.tot; omega
  refine ⟨by simp [h.len], by show (P.nw.set i _).length = 64; rw [List.length_set, h.nwl], h.tot, h.st, ?_, by show P.N + 1 = _; rw [h.N], by have := h.le; omega, fun j hj h2 => ?_⟩
  · have := count_take h0 h1024 (s := 1) (by omega)
    have := h.cnt
    show (P.m.put i 1).count + (many + 1) = 60
    omega
  · by_cases e : j = k
    · subst e
      refine .inr ⟨hl, i, by simp [List.getD, ← h.len], ?_, ?_⟩
      · show (P.m.put i 1).is 1 i = true
        rw [Mp.put_is_self, decide_eq_true g4, decide_eq_true gt]
        rfl
      · show (P.nw.set i (blockS bs[j])).getD i zsec = _
        rw [getD_set _ _ _ _ (by rw [h.nwl]; omega), if_pos rfl]
    · have e2 : (qs ++ [((i : Int), 1, (sumS (blockS bs[k]) : Int))]).getD j hole0 = qs.getD j hole0 := by
        simp only [List.getD]
        rw [List.getElem?_append_left (by rw [h.len]; omega)]
      rw [e2]
      rcases h.each j (by omega) h2 with h3 | ⟨h3, i', h4, h5, h6⟩
      · exact .inl h3
      · have hne : i' ≠ i := by
          rintro rfl
          have a := (Mp.is_iff.1 h5).2.2
          have b := (Mp.is_iff.1 h0).2.2
          omega
        refine .inr ⟨h3, i', h4, ?_, ?_⟩
        · show (P.m.put i 1).is 1 i' = true
          rw [Mp.put_is_ne hne]
          exact h5
        · show (P.nw.set i (blockS bs[k])).getD i' zsec = _
          have := (Mp.is_iff.1 h5).2.1
          rw [getD_set _ _ _ _ (by rw [h.nwl]; have := h.tot; omega), if_neg (Ne.symm hne)]
          exact h6
theorem puts_next {bs : List (List UInt8)} {k many : Nat} {P : Pw} {qs : List PtrV} (h : Puts bs k many P qs) (hm : many < 60) : ∃ i, P.m.next = some i := by
  cases hx : P.m.next with
  | some i => exact ⟨i, rfl⟩
  | none =>
    have := next_none.1 hx
    have := h.cnt
    omega
theorem puts_full {bs : List (List UInt8)} {k many : Nat} {P : Pw} {qs : List PtrV} (h : Puts bs k many P qs) (hm : many = 60) : P.m.next = none := next_none.2 (by have := h.cnt; omega)
end Go.Proofs.Ytddhacmaogaocaa
