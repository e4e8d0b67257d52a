/- The texts T14 T15 T16 T18. -/
import Derived.Test.YtagkhicbngaghaaT12
set_option maxRecDepth 10000
namespace Go.Proofs.Ytagkhicbngaghaa

section
open Go.RowKit

def cs64 (T : Nat → Sec) : Nat → List Value
  | 0 => []
  | n + 1 => cs64 T n ++ (T n).cs
theorem cs64_len (T : Nat → Sec) : ∀ n, (cs64 T n).length = n * 128
  | 0 => rfl
  | n + 1 => by
    show (cs64 T n ++ (T n).cs).length = _
    rw [List.length_append, cs64_len T n, Sec.cs_len]
    omega
theorem cs64_at (T : Nat → Sec) : ∀ {n i j : Nat}, i < n → j < 128 → (cs64 T n)[i * 128 + j]? = (T i).cs[j]?
  | 0, _, _, h, _ => by omega
  | n + 1, i, j, h, hj => by
    show (cs64 T n ++ (T n).cs)[i * 128 + j]? = _
    by_cases hi : i < n
    · rw [List.getElem?_append_left (by rw [cs64_len]; omega)]
      exact cs64_at T hi hj
    · obtain rfl : i = n := by omega
      rw [List.getElem?_append_right (by rw [cs64_len]; omega), cs64_len, show i * 128 + j - i * 128 = j by omega]
theorem blk64_is {w : World} {g : Nat} {t : TypeId} {T : Nat → Sec} {n i : Nat} (h : Blk w g t (cs64 T n).toArray) (hi : i < n) : w.rangeAt g (i * 128) (T i).cs := h.range _ _ fun j v hv => by
  have hj : j < 128 := by have := (List.getElem?_eq_some_iff.1 hv).1; rwa [Sec.cs_len] at this
  rw [List.getElem?_toArray, cs64_at T hi hj]
  exact hv
theorem blk64_there {w : World} {g : Nat} {t : TypeId} {T : Nat → Sec} {n i : Nat} (h : Blk w g t (cs64 T n).toArray) (hi : i < n) : w.there g (i * 128) 128 := h.there _ _ (by rw [List.size_toArray, cs64_len]; omega)
theorem blk64_set {w : World} {g : Nat} {t : TypeId} {T : Nat → Sec} {n i : Nat} (h : Blk w g t (cs64 T n).toArray) (hi : i < n) (x : Sec) : Blk (w.setCells g (i * 128) x.cs) g t (cs64 (setT T i x) n).toArray := by
  refine h.setTo _ _ (by rw [List.size_toArray, cs64_len, Sec.cs_len]; omega) fun k => ?_
  rw [List.getElem?_toArray, List.getElem?_toArray, Sec.cs_len]
  by_cases hk : k < n * 128
  · have e : k = k / 128 * 128 + k % 128 := by omega
    have h1 : k / 128 < n := by omega
    have h2 : k % 128 < 128 := by omega
    generalize k / 128 = a at *
    generalize k % 128 = b at *
    subst e
    rw [cs64_at _ h1 h2, cs64_at _ h1 h2]
    unfold setT
    by_cases ha : a = i
    · subst ha
      rw [if_pos rfl, if_pos (by omega), show a * 128 + b - a * 128 = b by omega]
    · rw [if_neg ha, if_neg (by omega)]
  · rw [if_neg (by omega), List.getElem?_eq_none (by rw [cs64_len]; omega), List.getElem?_eq_none (by rw [cs64_len]; omega)]
/-- Bools as a block. -/
def bs64 (p : Nat → Bool) (n : Nat) : Array Value := ((List.range n).map fun i => Value.bool (p i)).toArray
theorem bs64_at (p : Nat → Bool) {n i : Nat} (h : i < n) : (bs64 p n)[i]? = some (.bool (p i)) := by simp [bs64, h]
theorem bs64_set {p q : Nat → Bool} {n i : Nat} {b : Bool} (hi : i < n) (h1 : q i = b) (h : ∀ j, j ≠ i → q j = p j) : (bs64 p n).setIfInBounds i (.bool b) = bs64 q n := by
  refine Array.ext_getElem? fun j => ?_
  rw [Array.getElem?_setIfInBounds]
  by_cases hj : j < n
  · rw [bs64_at q hj, bs64_at p hj]
    by_cases he : i = j
    · subst he
      rw [if_pos rfl, if_pos (by simpa [bs64] using hi), h1]
    · rw [if_neg he, h j (Ne.symm he)]
  · have e : ∀ p : Nat → Bool, (bs64 p n)[j]? = none := fun p => Array.getElem?_eq_none (by simp [bs64]; omega)
    rw [e, e, if_neg (by omega)]
theorem size64 (T : Nat → Sec) : (Try.prog.info? 35).map (·.size) = some (cs64 T 64).toArray.size := by
  rw [List.size_toArray, cs64_len]
  kernel_rfl
theorem sizeB64 (p : Nat → Bool) : (Try.prog.info? 36).map (·.size) = some (bs64 p 64).size := by
  have e : (bs64 p 64).size = 64 := by simp [bs64]
  have h : (Try.prog.info? 36).map (·.size) = some 64 := by kernel_rfl
  rw [h, e]
theorem build64 (w : World) : (Instr.build 35 #[]).run Try.prog w = .ok (.agg (cs64 (fun _ => zsec) 64).toArray) w := by
  refine run_build w _ _ _ ?_
  kernel_rfl
theorem buildB64 (w : World) : (Instr.build 36 #[]).run Try.prog w = .ok (.agg (bs64 (fun _ => false) 64)) w := by
  refine run_build w _ _ _ ?_
  kernel_rfl
theorem info64 : (Try.prog.info? 35).map (fun i => i.zero) = some (some (.agg (cs64 (fun _ => zsec) 64).toArray)) := by kernel_rfl
theorem zero64 (w : World) : Sem.run Try.prog (zeroValue 35) w = .ok (.agg (cs64 (fun _ => zsec) 64).toArray) w := by
  obtain ⟨i, hi⟩ : ∃ i, Try.prog.info? 35 = some i := info_of_underlying Try.underlying35
  have h := info64
  rw [hi] at h
  simp only [Option.map_some, Option.some.injEq] at h
  simp [zeroValue, typeInfo, hi, h]
theorem infoB64 : (Try.prog.info? 36).map (fun i => i.zero) = some (some (.agg (bs64 (fun _ => false) 64))) := by kernel_rfl
theorem zeroB64 (w : World) : Sem.run Try.prog (zeroValue 36) w = .ok (.agg (bs64 (fun _ => false) 64)) w := by
  obtain ⟨i, hi⟩ : ∃ i, Try.prog.info? 36 = some i := info_of_underlying Try.underlying36
  have h := infoB64
  rw [hi] at h
  simp only [Option.map_some, Option.some.injEq] at h
  simp [zeroValue, typeInfo, hi, h]
end
section
open Go.RowKit

section
variable {n : Nat} {P P' : Pw} {root : PtrV} {F : P8} {S S' : Nat → P8} {T : Nat → Sec} {old : List PtrV} {i : Nat}
theorem Tree.mono (t : Tree P root F S T) (h : ∀ {r : PtrV} {x : Sec}, Held P r x → Held P' r x) : Tree P' root F S T :=
  ⟨t.fok, t.fall, h t.top, t.sok, t.sall, fun k hk => h (t.mid k hk), fun i hi => h (t.blk i hi)⟩
/-- Roots that were, and what their block 'p' is. -/
structure Hist (P : Pw) (roots : List PtrV) (texts : List Sec) (p : Nat) : Prop where
  len : texts.length = roots.length
  each : ∀ j (h : j < roots.length) (h2 : j < texts.length), ∃ F S T, Tree P roots[j] F S T ∧ texts[j] = T p
theorem hist_nil (P : Pw) (p : Nat) : Hist P [] [] p := ⟨rfl, fun j h => by simp at h⟩
variable {roots : List PtrV} {texts : List Sec} {p : Nat}
theorem Hist.mono (h : Hist P roots texts p) (hh : ∀ {r : PtrV} {x : Sec}, Held P r x → Held P' r x) : Hist P' roots texts p :=
  ⟨h.len, fun j h1 h2 => by
    obtain ⟨F, S, T, t, e⟩ := h.each j h1 h2
    exact ⟨F, S, T, t.mono hh, e⟩⟩
theorem Hist.snoc (h : Hist P roots texts p) (t : Tree P root F S T) : Hist P (roots ++ [root]) (texts ++ [T p]) p :=
  ⟨by rw [List.length_append, List.length_append, h.len]; rfl, fun j h1 h2 => by
    by_cases hj : j < roots.length
    · obtain ⟨F', S', T', t', e⟩ := h.each j hj (by rw [h.len]; exact hj)
      refine ⟨F', S', T', ?_, ?_⟩
      · rw [List.getElem_append_left hj]
        exact t'
      · rw [List.getElem_append_left (by rw [h.len]; exact hj)]
        exact e
    · have hjl : j = roots.length := by
        rw [List.length_append] at h1
        have : j < roots.length + 1 := h1
        omega
      subst hjl
      refine ⟨F, S, T, ?_, ?_⟩
      · simpa using t
      · rw [List.getElem_append_right (by rw [h.len]; exact Nat.le_refl _)]
        simp⟩
/-- Which blocks are there. -/
def IsB (b : Nat → Bool) (S : Nat → P8) : Prop := ∀ i, i < 64 → (b i = true ↔ blkQ S i ≠ hole0)
def setB (b : Nat → Bool) (i : Nat) (v : Bool) (j : Nat) : Bool := if j = i then v else b j
theorem isB_zero : IsB (fun _ => false) (fun _ => zp8) := fun i hi => by
  have : blkQ (fun _ => zp8) i = hole0 := zp8_at _ (Nat.mod_lt _ (by omega))
  simp [this]
theorem isB_set {b : Nat → Bool} (h : IsB b S) {q : PtrV} (hq : q ≠ hole0) (hS : ∀ j, blkQ S' j = if j = i then q else blkQ S j) : IsB (setB b i true) S' := fun j hj => by
  rw [hS j]
  unfold setB
  split
  · simp [hq]
  · exact h j hj
theorem isB_trim {b : Nat → Bool} (h : IsB b S) (hS : ∀ j, blkQ S' j = if j = i then hole0 else blkQ S j) : IsB (setB b i false) S' := fun j hj => by
  rw [hS j]
  unfold setB
  split
  · simp
  · exact h j hj
/-- What the law wants Blocks to tell. -/
theorem isB_list {b : Nat → Bool} (h : IsB b S) : blkL S = (List.range 64).filter b := List.filter_congr fun i hi => by
  have h1 := h i (List.mem_range.1 hi)
  rw [Bool.eq_iff_iff, h1, Bool.not_eq_true', ← Bool.not_eq_true, hole_iff]
end
end
section
open Go.RowKit

/-! ### Rows of sectors -/
def OwnS (w : World) (base : Nat) (v : Value) (l : List Sec) : Prop := w.ownsRow base 23 128 v l.length (flat l)
theorem app_sec {ops : Array Oper} {rest : List Oper} {o : Oper} {a : Act} {w : World} {Q : Exit → Act → World → Prop} (hgd : o.guard = none) (s x : Nat)
    (ho : o.op = .call { callee := .builtin .append, args := #[.tmp s, .tmp x], argTypes := #[38, 38] })
    (base : Nat) (v : Value) (l : List Sec) (hs : a.eval (.tmp s) = v) (hown : OwnS w base v l) (q : Sec)
    (g0 : Nat) (hg : g0 = w.heap.size) (hx : a.eval (.tmp x) = .slice (some ⟨g0, 0, none⟩) 1 1) (hbase : base ≤ w.heap.size) (hn : l.length ≤ 10000)
    (h : ∀ v' w', OwnS w' base v' (l ++ [q]) → (w.alloc (.cells q.cs.toArray 23)).grownBy w' v.ownBlock → (∀ k, v'.ownBlock = some k → v.ownBlock = some k ∨ w.heap.size ≤ k) → wpList Try.prog ops Q rest (a.put o.dst v') w') :
    wpList Try.prog ops Q (o :: rest) a (w.alloc (.cells q.cs.toArray 23)) := by
  subst hg
  obtain ⟨i0, hi0, hz0, hz2, hz3⟩ := info_parts infoSec
  refine wpList_append_lies _ hgd (.tmp s) (.tmp x) _ ho base 23 i0 _ 128 128 Try.underlying38 hi0 hz0 hz2 hz3 (by show zsec.cs.length = 128; exact zsec.cs_len) (by omega) v l.length (flat l) hs (World.ownsRow.alloc hown _)
    ⟨w.heap.size, 0, none⟩ 1 1 q.cs hx (by rw [Sec.cs_len]) (rd_add (rd_new w q.cs.toArray 23)) q.one (by omega) (by simp only [maxLen]; omega) (by omega) (by simp; omega) (w.heap.size + 1) (by simp) ?_
  intro g cap w' h1 h2 h3 _
  refine h _ w' ?_ h2 ?_
  · show w'.ownsRow base 23 128 _ (l ++ [q]).length (flat (l ++ [q]))
    rw [flat_snoc, List.length_append]
    exact h1
  · intro k hk
    rcases h3 with h3 | h3
    · left; rw [h3, ← hk]; rfl
    · right
      have : g = k := by simpa [Value.ownBlock] using hk
      omega
theorem bsl_sec {ops : Array Oper} {rest : List Oper} {o : Oper} {a : Act} {w : World} {Q : Exit → Act → World → Prop} (hgd : o.guard = none) (y : Operand) (ho : o.op = .buildSlice 38 1 #[(0, y)]) (x : Sec) (hy : a.eval y = .agg x.cs.toArray)
    (h : wpList Try.prog ops Q rest (a.put o.dst (.slice (some ⟨w.heap.size, 0, none⟩) 1 1)) (w.alloc (.cells x.cs.toArray 23))) : wpList Try.prog ops Q (o :: rest) a w := by
  have hb := run_bsl1 Try.underlying38 infoSec (by omega) (by omega) x.cs x.cs_len (.agg x.cs.toArray) rfl w
  refine wpList_plain hgd fun _ hK => ?_
  unfold Oper.wp execOp
  simp only [ho, List.map_toArray, List.map_cons, List.map_nil, hy, hb, Sem.run_bind, Sem.run_pure, Result.andThen_ok]
  exact hK _ _ h
theorem ownS_nil (w : World) (base : Nat) (hb : base ≤ w.heap.size) : OwnS (w.alloc (.cells #[] 23)) base (.slice (some ⟨w.heap.size, 0, none⟩) 0 0) [] := by
  have h := World.ownsRow_lit (base := base) (e := 23) (size := 128) w #[] 0 hb (by simp [maxLen]) rfl
  simpa [OwnS, flat] using h
structure RowS (w : World) (O : Nat → Prop) (base : Nat) (v : Value) (l : List Sec) : Prop where
  own : OwnS w base v l
  far : ∀ b, v.ownBlock = some b → ¬ O b
section
variable {w w' : World} {O O' X : Nat → Prop} {base : Nat} {v v' : Value} {l m : List Sec}
theorem RowS.chg (h : RowS w O base v l) (hc : Chg w w' X) (hn : ∀ b, v.ownBlock = some b → ¬ X b) : RowS w' O base v l := ⟨own_chg h.own hc hn, h.far⟩
theorem RowS.step (h : RowS w O base v l) (s : Step w w' O O') : RowS w' O' base v l :=
  ⟨own_chg h.own s.chg h.far, fun b hb ho => (s.new b ho).elim (h.far b hb) fun h2 => by have := (h.own.lt b hb).2; omega⟩
theorem RowS.later (h : RowS w O base v l) (hb : Below w.heap.size w w') : RowS w' O base v l := ⟨own_far h.own hb, h.far⟩
theorem RowS.app (h : RowS w O base v l) (hO : ∀ k, O k → k < w.heap.size) (ho : OwnS w' base v' (l ++ m)) (hn : ∀ k, v'.ownBlock = some k → v.ownBlock = some k ∨ w.heap.size ≤ k) : RowS w' O base v' (l ++ m) :=
  ⟨ho, fun b hb hx => (hn b hb).elim (fun h1 => h.far b h1 hx) fun h1 => by have := hO b hx; omega⟩
end
theorem lowS {w : World} {base : Nat} {v : Value} {l : List Sec} (h : OwnS w base v l) : ∃ A c, v = .slice A l.length c ∧ ∀ k (hk : k < l.length), ∃ b off, A = some ⟨b, off, none⟩ ∧ base ≤ b ∧ b < w.heap.size ∧ w.rangeAt b (off + k * 128) l[k].cs := by
  obtain ⟨A, c, e, h1, _⟩ := own_rd h
  refine ⟨A, c, e, fun k hk => ?_⟩
  obtain ⟨g, cap, e', hN, hl, _⟩ := own_form h (by omega)
  rw [e] at e'
  obtain ⟨b, off, rfl, h3, h4⟩ := h1 (by rw [flat_len]; omega)
  simp only [Value.slice.injEq, Option.some.injEq, Addr.mk.injEq] at e'
  refine ⟨b, off, rfl, by omega, h3, fun j v hv => ?_⟩
  have hj : j < 128 := by have := (List.getElem?_eq_some_iff.1 hv).1; rwa [Sec.cs_len] at this
  have := h4 (k * 128 + j) v (by rw [flat_at l k hk j hj]; exact hv)
  rwa [← Nat.add_assoc] at this
/-! ### The law's own memory beside a pile -/
structure TM (At : World → (Nat → Prop) → Nat → Pw → Prop) (w wr : World) (O : Nat → Prop) (g gr gn gi bq bt : Nat) (P : Pw) (q : PtrV) (T : Nat → Sec) (b : Nat → Bool) (roots : List PtrV) (texts : List Sec) (vq vt : Value) : Prop where
  has : HasT At w wr O g P
  box : BlkA wr O gr 32 (pcs q.1 q.2.1 q.2.2)
  now : BlkA wr O gn 35 (cs64 T 64).toArray
  is : BlkA wr O gi 36 (bs64 b 64)
  rq : RowA wr O bq vq roots
  rt : RowS wr O bt vt texts
  apart : ∀ k, vq.ownBlock = some k → vt.ownBlock = some k → False
  lo : w.heap.size ≤ gr ∧ gr < gn ∧ gn < gi ∧ gi < bq ∧ gi < bt ∧ bq ≤ wr.heap.size ∧ bt ≤ wr.heap.size
section
variable {At : World → (Nat → Prop) → Nat → Pw → Prop} {w wr W : World} {O O' : Nat → Prop} {g gr gn gi bq bt : Nat} {P P' : Pw} {q q' : PtrV} {T T' : Nat → Sec} {b b' : Nat → Bool} {roots : List PtrV} {texts : List Sec} {vq vt v' : Value}
theorem TM.later (L : TreeCalls At) (h : TM At w wr O g gr gn gi bq bt P q T b roots texts vq vt) (hb : Below wr.heap.size wr W) : TM At w W O g gr gn gi bq bt P q T b roots texts vq vt :=
  ⟨h.has.far L hb, h.box.later hb, h.now.later hb, h.is.later hb, h.rq.later hb, h.rt.later hb, h.apart, by obtain ⟨a1, a2, a3, a4, a5, a6, a7⟩ := h.lo; exact ⟨a1, a2, a3, a4, a5, Nat.le_trans a6 hb.size, Nat.le_trans a7 hb.size⟩⟩
theorem TM.step (h : TM At w wr O g gr gn gi bq bt P q T b roots texts vq vt) (ha : At W O' g P') (s : Step wr W O O') : TM At w W O' g gr gn gi bq bt P' q T b roots texts vq vt :=
  ⟨h.has.step ha s, h.box.step s, h.now.step s, h.is.step s, h.rq.step s, h.rt.step s, h.apart, by obtain ⟨a1, a2, a3, a4, a5, a6, a7⟩ := h.lo; exact ⟨a1, a2, a3, a4, a5, Nat.le_trans a6 s.chg.size, Nat.le_trans a7 s.chg.size⟩⟩
theorem TM.alone (L : TreeCalls At) (h : TM At w wr O g gr gn gi bq bt P q T b roots texts vq vt) {X : Nat → Prop} (hc : Chg wr W X) (hx : ∀ k, X k → w.heap.size ≤ k ∧ ¬ O k) : HasT At w W O g P :=
  ⟨L.stay h.has.at_ hc fun k ho hk => (hx k hk).2 ho, h.has.lo, h.has.below.trans (hc.below (fun k hk => (hx k hk).1) h.has.below.size)⟩
/-- The law's own blocks. -/
theorem TM.setBox (L : TreeCalls At) (h : TM At w wr O g gr gn gi bq bt P q T b roots texts vq vt) (hc : Chg wr W (· = gr)) (hb : Blk W gr 32 (pcs q'.1 q'.2.1 q'.2.2)) : TM At w W O g gr gn gi bq bt P q' T b roots texts vq vt := by
  obtain ⟨a1, a2, a3, a4, a5, a6, a7⟩ := h.lo
  refine ⟨h.alone L hc fun k e => by subst e; exact ⟨a1, h.box.far⟩, ⟨hb, h.box.far⟩, ⟨h.now.blk.chg hc (by omega), h.now.far⟩, ⟨h.is.blk.chg hc (by omega), h.is.far⟩, h.rq.chg hc fun k hk e => ?_, h.rt.chg hc fun k hk e => ?_, h.apart, a1, a2, a3, a4, a5, Nat.le_trans a6 hc.size, Nat.le_trans a7 hc.size⟩
  · have := (h.rq.own.lt k hk).1; omega
  · have := (h.rt.own.lt k hk).1; omega
theorem TM.setNow (L : TreeCalls At) (h : TM At w wr O g gr gn gi bq bt P q T b roots texts vq vt) (hc : Chg wr W (· = gn)) (hb : Blk W gn 35 (cs64 T' 64).toArray) : TM At w W O g gr gn gi bq bt P q T' b roots texts vq vt := by
  obtain ⟨a1, a2, a3, a4, a5, a6, a7⟩ := h.lo
  refine ⟨h.alone L hc fun k e => by subst e; exact ⟨by omega, h.now.far⟩, ⟨h.box.blk.chg hc (by omega), h.box.far⟩, ⟨hb, h.now.far⟩, ⟨h.is.blk.chg hc (by omega), h.is.far⟩, h.rq.chg hc fun k hk e => ?_, h.rt.chg hc fun k hk e => ?_, h.apart, a1, a2, a3, a4, a5, Nat.le_trans a6 hc.size, Nat.le_trans a7 hc.size⟩
  · have := (h.rq.own.lt k hk).1; omega
  · have := (h.rt.own.lt k hk).1; omega
theorem TM.setIs (L : TreeCalls At) (h : TM At w wr O g gr gn gi bq bt P q T b roots texts vq vt) (hc : Chg wr W (· = gi)) (hb : Blk W gi 36 (bs64 b' 64)) : TM At w W O g gr gn gi bq bt P q T b' roots texts vq vt := by
  obtain ⟨a1, a2, a3, a4, a5, a6, a7⟩ := h.lo
  refine ⟨h.alone L hc fun k e => by subst e; exact ⟨by omega, h.is.far⟩, ⟨h.box.blk.chg hc (by omega), h.box.far⟩, ⟨h.now.blk.chg hc (by omega), h.now.far⟩, ⟨hb, h.is.far⟩, h.rq.chg hc fun k hk e => ?_, h.rt.chg hc fun k hk e => ?_, h.apart, a1, a2, a3, a4, a5, Nat.le_trans a6 hc.size, Nat.le_trans a7 hc.size⟩
  · have := (h.rq.own.lt k hk).1; omega
  · have := (h.rt.own.lt k hk).1; omega
/-- The rows grow. -/
theorem TM.growQ (L : TreeCalls At) (h : TM At w wr O g gr gn gi bq bt P q T b roots texts vq vt) {W1 : World} {r : List PtrV} (hb : Below wr.heap.size wr W1) (hg : W1.grownBy W vq.ownBlock) (ho : OwnQ W bq v' (roots ++ r)) (hn : ∀ k, v'.ownBlock = some k → vq.ownBlock = some k ∨ wr.heap.size ≤ k) :
    TM At w W O g gr gn gi bq bt P q T b (roots ++ r) texts v' vt := by
  obtain ⟨a1, a2, a3, a4, a5, a6, a7⟩ := h.lo
  have hc : Chg wr W (fun k => vq.ownBlock = some k) := (Chg.of_below hb).grown hg fun _ hk => .inl hk
  have key : ∀ k, vq.ownBlock = some k → bq ≤ k := fun k hk => (h.rq.own.lt k hk).1
  refine ⟨h.alone L hc fun k e => ⟨by have := key k e; omega, h.rq.far k e⟩, ⟨h.box.blk.chg hc fun e => by have := key _ e; omega, h.box.far⟩, ⟨h.now.blk.chg hc fun e => by have := key _ e; omega, h.now.far⟩, ⟨h.is.blk.chg hc fun e => by have := key _ e; omega, h.is.far⟩, h.rq.app (fun k hk => L.foot h.has.at_ k hk) ho hn, h.rt.chg hc fun k hk e => h.apart k e hk, fun k hk hk2 => ?_, a1, a2, a3, a4, a5, Nat.le_trans a6 hc.size, Nat.le_trans a7 hc.size⟩
  rcases hn k hk with h1 | h1
  · exact h.apart k h1 hk2
  · have := (h.rt.own.lt k hk2).2; omega
theorem TM.growS (L : TreeCalls At) (h : TM At w wr O g gr gn gi bq bt P q T b roots texts vq vt) {W1 : World} {r : List Sec} (hb : Below wr.heap.size wr W1) (hg : W1.grownBy W vt.ownBlock) (ho : OwnS W bt v' (texts ++ r)) (hn : ∀ k, v'.ownBlock = some k → vt.ownBlock = some k ∨ wr.heap.size ≤ k) :
    TM At w W O g gr gn gi bq bt P q T b roots (texts ++ r) vq v' := by
  obtain ⟨a1, a2, a3, a4, a5, a6, a7⟩ := h.lo
  have hc : Chg wr W (fun k => vt.ownBlock = some k) := (Chg.of_below hb).grown hg fun _ hk => .inl hk
  have key : ∀ k, vt.ownBlock = some k → bt ≤ k := fun k hk => (h.rt.own.lt k hk).1
  refine ⟨h.alone L hc fun k e => ⟨by have := key k e; omega, h.rt.far k e⟩, ⟨h.box.blk.chg hc fun e => by have := key _ e; omega, h.box.far⟩, ⟨h.now.blk.chg hc fun e => by have := key _ e; omega, h.now.far⟩, ⟨h.is.blk.chg hc fun e => by have := key _ e; omega, h.is.far⟩, h.rq.chg hc fun k hk e => h.apart k hk e, h.rt.app (fun k hk => L.foot h.has.at_ k hk) ho hn, fun k hk hk2 => ?_, a1, a2, a3, a4, a5, Nat.le_trans a6 hc.size, Nat.le_trans a7 hc.size⟩
  rcases hn k hk2 with h1 | h1
  · exact h.apart k hk h1
  · have := (h.rq.own.lt k hk).2; omega
end
/-! ### What is told of it, as plain mathematics -/
structure TD (P : Pw) (q : PtrV) (F : P8) (S : Nat → P8) (T : Nat → Sec) (old : List PtrV) (b : Nat → Bool) (roots : List PtrV) (texts : List Sec) (p k : Nat) : Prop where
  good : Good 196 P q F S T old
  isb : IsB b S
  hist : Hist P roots texts p
  N : P.N ≤ 3 * k
  cnt : P.m.count + 3 * k ≥ 196
  len : roots.length ≤ k
section
variable {P : Pw} {q : PtrV} {F : P8} {S : Nat → P8} {T : Nat → Sec} {old : List PtrV} {b : Nat → Bool} {roots : List PtrV} {texts : List Sec} {p k i : Nat}
theorem TD.wait (h : TD P q F S T old b roots texts p k) : TD P q F S T old b roots texts p (k + 1) :=
  ⟨h.good, h.isb, h.hist, by have := h.N; omega, by have := h.cnt; omega, by have := h.len; omega⟩
theorem TD.set (h : TD P q F S T old b roots texts p k) (hk : k < 40) (hi : i < 64) {l : List UInt8} (hl : l.length ≤ 128) :
    ∃ F' S' old', TD (setP P F S i l) (setQ P F S i l) F' S' (setT T i (blockS l)) old' (setB b i true) (roots ++ [setQ P F S i l]) (texts ++ [setT T i (blockS l) p]) p (k + 1) := by
  obtain ⟨F', S', g, h1, h2, h3, h4, h5, h6, h7⟩ := h.good.set hi hl (by have := h.cnt; omega)
  exact ⟨F', S', _, g, isB_set h.isb h6 h7, (h.hist.mono h5).snoc g.tree, by have := h.N; omega, by have := h.cnt; omega, by rw [List.length_append]; have := h.len; show _ + 1 ≤ _; omega⟩
theorem TD.trim (h : TD P q F S T old b roots texts p k) (hk : k < 40) (hi : i < 64) :
    ∃ F' S' old', TD (trimP P F S i) (trimQ P q F S i) F' S' (setT T i zsec) old' (setB b i false) (roots ++ [trimQ P q F S i]) (texts ++ [setT T i zsec p]) p (k + 1) := by
  obtain ⟨_, F', S', g, h1, h2, h3, h4, h5, h7⟩ := h.good.trim hi (by have := h.cnt; omega)
  exact ⟨F', S', _, g, isB_trim h.isb h7, (h.hist.mono h5).snoc g.tree, by have := h.N; omega, by have := h.cnt; omega, by rw [List.length_append]; have := h.len; show _ + 1 ≤ _; omega⟩
end
end
section
open Go.RowKit

section
variable {At : World → (Nat → Prop) → Nat → Pw → Prop} {w wr W : World} {O O' X : Nat → Prop} {g gr gn gi bq bt : Nat} {P P' : Pw} {q : PtrV} {T : Nat → Sec} {b : Nat → Bool} {roots : List PtrV} {texts : List Sec} {vt vq : Value}
theorem TM.root {A : Option Addr} {n c : Nat} (h : TM At w wr O g gr gn gi bq bt P q T b roots texts (.slice A n c) vt) {k : Nat} (hk : k < roots.length) : ∃ bb off, A = some ⟨bb, off, none⟩ ∧ bb < wr.heap.size ∧
    wr.cell? ⟨bb, off + k * 3, none⟩ = some (.int .i64 roots[k].1) ∧ wr.cell? ⟨bb, off + k * 3 + 1, none⟩ = some (.int .u64 roots[k].2.1) ∧ wr.cell? ⟨bb, off + k * 3 + 2, none⟩ = some (.int .u32 roots[k].2.2) := by
  obtain ⟨A', c', e, hl⟩ := lowQ h.rq.own
  simp only [Value.slice.injEq] at e
  obtain ⟨rfl, _, _⟩ := e
  obtain ⟨b', off', rfl, _, h2, h3, h4, h5⟩ := hl k hk
  exact ⟨b', off', rfl, h2, h3, h4, h5⟩
theorem TM.rootAt {bb off n c : Nat} (h : TM At w wr O g gr gn gi bq bt P q T b roots texts (.slice (some ⟨bb, off, none⟩) n c) vt) {k : Nat} {x : PtrV} (hk : k < roots.length) (hx : roots[k] = x) :
    wr.cell? ⟨bb, off + k * 3, none⟩ = some (.int .i64 x.1) ∧ wr.cell? ⟨bb, off + k * 3 + 1, none⟩ = some (.int .u64 x.2.1) ∧ wr.cell? ⟨bb, off + k * 3 + 2, none⟩ = some (.int .u32 x.2.2) := by
  subst hx
  obtain ⟨b', off', e, _, h3⟩ := h.root hk
  simp only [Option.some.injEq, Addr.mk.injEq, and_true] at e
  obtain ⟨rfl, rfl⟩ := e
  exact h3
theorem TM.textAt {bb off n c : Nat} (h : TM At w wr O g gr gn gi bq bt P q T b roots texts vq (.slice (some ⟨bb, off, none⟩) n c)) {k : Nat} {x : Sec} (hk : k < texts.length) (hx : texts[k] = x) : wr.rangeAt bb (off + k * 128) x.cs := by
  subst hx
  obtain ⟨A', c', e, hl⟩ := lowS h.rt.own
  simp only [Value.slice.injEq] at e
  obtain ⟨rfl, _, _⟩ := e
  obtain ⟨b', off', e, _, _, h3⟩ := hl k hk
  simp only [Option.some.injEq, Addr.mk.injEq, and_true] at e
  obtain ⟨rfl, rfl⟩ := e
  exact h3
theorem TM.text {A : Option Addr} {n c : Nat} (h : TM At w wr O g gr gn gi bq bt P q T b roots texts vq (.slice A n c)) {k : Nat} (hk : k < texts.length) : ∃ bb off, A = some ⟨bb, off, none⟩ := by
  obtain ⟨A', c', e, hl⟩ := lowS h.rt.own
  simp only [Value.slice.injEq] at e
  obtain ⟨rfl, _, _⟩ := e
  obtain ⟨b', off', e, _⟩ := hl k hk
  exact ⟨b', off', e⟩
/-- A block newly laid by the law, stored into. -/
theorem TM.newBlk (L : TreeCalls At) (h : TM At w wr O g gr gn gi bq bt P q T b roots texts vq vt) {gx : Nat} (hc : Chg wr W (· = gx)) (hw : w.heap.size ≤ gx) (hO : ¬ O gx) (h1 : gx ≠ gr ∧ gx ≠ gn ∧ gx ≠ gi) (h2 : ∀ k, vq.ownBlock = some k → k ≠ gx) (h3 : ∀ k, vt.ownBlock = some k → k ≠ gx) : TM At w W O g gr gn gi bq bt P q T b roots texts vq vt := by
  obtain ⟨a1, a2, a3, a4, a5, a6, a7⟩ := h.lo
  exact ⟨h.alone L hc fun k e => by subst e; exact ⟨hw, hO⟩, ⟨h.box.blk.chg hc fun e => h1.1 e.symm, h.box.far⟩, ⟨h.now.blk.chg hc fun e => h1.2.1 e.symm, h.now.far⟩, ⟨h.is.blk.chg hc fun e => h1.2.2 e.symm, h.is.far⟩, h.rq.chg hc h2, h.rt.chg hc h3, h.apart, a1, a2, a3, a4, a5, Nat.le_trans a6 hc.size, Nat.le_trans a7 hc.size⟩
/-- The same, of the arrays alone. -/
structure TB (At : World → (Nat → Prop) → Nat → Pw → Prop) (w wr : World) (O : Nat → Prop) (g gr gn gi bw : Nat) (P : Pw) (q : PtrV) (T : Nat → Sec) (b : Nat → Bool) (A : Option Addr) (l : List Int) : Prop where
  has : HasT At w wr O g P
  box : BlkA wr O gr 32 (pcs q.1 q.2.1 q.2.2)
  now : BlkA wr O gn 35 (cs64 T 64).toArray
  is : BlkA wr O gi 36 (bs64 b 64)
  row : RdA wr O A (ints l)
  rlo : ∀ k off, A = some ⟨k, off, none⟩ → 0 < l.length → k < bw
  lo : gr < bw ∧ gn < bw ∧ gi < bw ∧ w.heap.size ≤ bw ∧ bw ≤ wr.heap.size
variable {bw : Nat} {A : Option Addr} {l : List Int}
theorem TB.later (L : TreeCalls At) (h : TB At w wr O g gr gn gi bw P q T b A l) (hb : Below wr.heap.size wr W) : TB At w W O g gr gn gi bw P q T b A l :=
  ⟨h.has.far L hb, h.box.later hb, h.now.later hb, h.is.later hb, h.row.far hb, h.rlo, h.lo.1, h.lo.2.1, h.lo.2.2.1, h.lo.2.2.2.1, Nat.le_trans h.lo.2.2.2.2 hb.size⟩
theorem TB.step (h : TB At w wr O g gr gn gi bw P q T b A l) (ha : At W O' g P) (s : Step wr W O O') : TB At w W O' g gr gn gi bw P q T b A l :=
  ⟨h.has.step ha s, h.box.step s, h.now.step s, h.is.step s, h.row.step s, h.rlo, h.lo.1, h.lo.2.1, h.lo.2.2.1, h.lo.2.2.2.1, Nat.le_trans h.lo.2.2.2.2 s.chg.size⟩
/-- What lies above is turned. -/
theorem TB.above (L : TreeCalls At) (h : TB At w wr O g gr gn gi bw P q T b A l) (hc : Chg wr W X) (hx : ∀ k, X k → bw ≤ k ∧ ¬ O k) : TB At w W O g gr gn gi bw P q T b A l := by
  obtain ⟨a1, a2, a3, a4, a5⟩ := h.lo
  refine ⟨⟨L.stay h.has.at_ hc fun k ho hk => (hx k hk).2 ho, h.has.lo, h.has.below.trans (hc.below (fun k hk => Nat.le_trans a4 (hx k hk).1) h.has.below.size)⟩, ⟨h.box.blk.chg hc fun e => by have := (hx _ e).1; omega, h.box.far⟩, ⟨h.now.blk.chg hc fun e => by have := (hx _ e).1; omega, h.now.far⟩, ⟨h.is.blk.chg hc fun e => by have := (hx _ e).1; omega, h.is.far⟩, ⟨fun hn => ?_, h.row.apart⟩, h.rlo, a1, a2, a3, a4, Nat.le_trans a5 hc.size⟩
  obtain ⟨k, off, e, hl, hcell⟩ := h.row.rd hn
  have hk := h.rlo k off e (by simpa [ints] using hn)
  exact ⟨k, off, e, Nat.lt_of_lt_of_le hl hc.size, fun j v hv => (hc.cell hl (fun hx2 => by have := (hx _ hx2).1; omega) _).trans (hcell j v hv)⟩
end
theorem app_int2 {ops : Array Oper} {rest : List Oper} {o : Oper} {a : Act} {w : World} {Q : Exit → Act → World → Prop} (hgd : o.guard = none) (s x : Nat)
    (ho : o.op = .call { callee := .builtin .append, args := #[.tmp s, .tmp x], argTypes := #[46, 46] })
    (base : Nat) (v : Value) (l : List Int) (hs : a.eval (.tmp s) = v) (hown : OwnI w base v l) (n : Int)
    (hx : a.eval (.tmp x) = .slice (some ⟨w.heap.size, 0, none⟩) 1 1) (hbase : base ≤ w.heap.size) (hR : l.length ≤ 1048576)
    (h : ∀ v' w', OwnI w' base v' (l ++ [n]) → (w.alloc (.cells #[.int .i64 n] 3)).grownBy w' v.ownBlock → (∀ k, v'.ownBlock = some k → v.ownBlock = some k ∨ w.heap.size ≤ k) → wpList Try.prog ops Q rest (a.put o.dst v') w') :
    wpList Try.prog ops Q (o :: rest) a (w.alloc (.cells #[.int .i64 n] 3)) := by
  obtain ⟨i0, hi0, hz0, hz2, hz3⟩ := info_parts infoInt
  refine wpList_append_lies _ hgd (.tmp s) (.tmp x) _ ho base 3 i0 _ 1 8 Try.underlying46 hi0 hz0 hz2 hz3 rfl (by omega) v l.length (ints l) hs (World.ownsRow.alloc hown _)
    ⟨w.heap.size, 0, none⟩ 1 1 [.int .i64 n] hx rfl (rd_add (rd_new w #[.int .i64 n] 3)) (by simp [Value.oneCell']) (by omega) (by simp only [maxLen]; omega) (by omega) (by simp; omega) (w.heap.size + 1) (by simp) ?_
  intro g cap w' h1 h2 h3 _
  refine h _ w' ?_ h2 ?_
  · show w'.ownsRow base 3 1 _ (l ++ [n]).length (ints (l ++ [n]))
    rw [ints_app, List.length_append]
    exact h1
  · intro k hk
    rcases h3 with h3 | h3
    · left; rw [h3, ← hk]; rfl
    · right
      have : g = k := by simpa [Value.ownBlock] using hk
      omega
structure RowI (w : World) (O : Nat → Prop) (base : Nat) (v : Value) (l : List Int) : Prop where
  own : OwnI w base v l
  far : ∀ b, v.ownBlock = some b → ¬ O b
section
variable {w w' : World} {O O' X : Nat → Prop} {base : Nat} {v v' : Value} {l m : List Int}
theorem RowI.chg (h : RowI w O base v l) (hc : Chg w w' X) (hn : ∀ b, v.ownBlock = some b → ¬ X b) : RowI w' O base v l := ⟨own_chg h.own hc hn, h.far⟩
theorem RowI.step (h : RowI w O base v l) (s : Step w w' O O') : RowI w' O' base v l :=
  ⟨own_chg h.own s.chg h.far, fun b hb ho => (s.new b ho).elim (h.far b hb) fun h2 => by have := (h.own.lt b hb).2; omega⟩
theorem RowI.later (h : RowI w O base v l) (hb : Below w.heap.size w w') : RowI w' O base v l := ⟨own_far h.own hb, h.far⟩
theorem RowI.app (h : RowI w O base v l) (hO : ∀ k, O k → k < w.heap.size) (ho : OwnI w' base v' (l ++ m)) (hn : ∀ k, v'.ownBlock = some k → v.ownBlock = some k ∨ w.heap.size ≤ k) : RowI w' O base v' (l ++ m) :=
  ⟨ho, fun b hb hx => (hn b hb).elim (fun h1 => h.far b h1 hx) fun h1 => by have := hO b hx; omega⟩
end
/-- The numbers up to k of which b is true. -/
def wantTo (b : Nat → Bool) (k : Nat) : List Int := natI64 ((List.range k).filter b)
theorem wantTo_len (b : Nat → Bool) (k : Nat) : (wantTo b k).length ≤ k := by
  unfold wantTo natI64
  rw [List.length_map]
  exact Nat.le_trans (List.length_filter_le _ _) (by simp)
theorem wantTo_yes {b : Nat → Bool} {k : Nat} (h : b k = true) : wantTo b (k + 1) = wantTo b k ++ [(k : Int)] := by simp [wantTo, natI64, List.range_succ, List.filter_append, h]
theorem wantTo_no {b : Nat → Bool} {k : Nat} (h : b k = false) : wantTo b (k + 1) = wantTo b k := by simp [wantTo, natI64, List.range_succ, List.filter_append, h]
theorem ownI_nil (w : World) (base : Nat) (hb : base ≤ w.heap.size) : OwnI (w.alloc (.cells #[] 3)) base (.slice (some ⟨w.heap.size, 0, none⟩) 0 0) [] := by
  have h := World.ownsRow_lit (base := base) (e := 3) (size := 1) w #[] 0 hb (by simp [maxLen]) rfl
  simpa [OwnI, ints] using h
theorem ex_ldSo {o : Oper} {a : Act} {w : World} (x : Operand) (ho : o.op = .load 23 x) (g k : Nat) (s : Sec) (hx : a.eval x = .pointer (some ⟨g, k, none⟩)) (hg : w.rangeAt g k s.cs) :
    (execOp a.eval o).run Try.prog w = .ok (.value (.agg s.cs.toArray)) w := by
  have h := run_loadAt_mid w g k _ s.cs _ hg Try.underlying23 rfl (sizeSec' s)
  unfold execOp
  simp only [ho, hx, h, Sem.run_bind, Sem.run_pure, Result.andThen_ok]
theorem ex_neSelf {o : Oper} {a : Act} {w : World} (x y : Operand) (ho : o.op = .binOp .neq 23 x y 23) (s : Sec) (hx : a.eval x = .agg s.cs.toArray) (hy : a.eval y = .agg s.cs.toArray) :
    (execOp a.eval o).run Try.prog w = .ok (.value (.bool false)) w := by
  have h := ex_neS (w := w) x y ho s s hx hy
  rwa [Sec.same_self] at h
theorem step_stSx {ops : Array Oper} {o : Oper} {a : Act} {w : World} {K : Act → World → Prop} {Q : Exit → Act → World → Prop} {E : Prop} (hgd : o.guard = none) (x y : Operand) (ho : o.op = .store 23 x y)
    (b : Nat) (u v : Sec) (hx : a.eval x = .pointer (some ⟨b, 0, none⟩)) (hy : a.eval y = .agg v.cs.toArray) (hb : Blk w b 23 u.cs.toArray)
    (h : ∀ w', Blk w' b 23 v.cs.toArray → Chg w w' (· = b) → K (a.put o.dst undef) w') : if Region.wanted o (yielded ops a.tmps) = true then Oper.wp Try.prog o a w K Q else E := by
  have hw : Region.wanted o (yielded ops a.tmps) = true := by simp [Region.wanted, hgd]
  rw [if_pos hw]
  exact wp_store_mid _ x y ho b 0 v.cs.toArray hx hy (by rw [List.size_toArray, Sec.cs_len]; exact hb.secHas) (sizeSec'' v) (all_one v.one) (h _ (hb.secAll v) (Chg.setCells (O := (· = b)) (.inl rfl) _ _ (Chg.refl _ _)))
end
end Go.Proofs.Ytagkhicbngaghaa
