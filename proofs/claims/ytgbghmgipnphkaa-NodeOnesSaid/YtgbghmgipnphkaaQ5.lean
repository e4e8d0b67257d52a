
/- Walks: the pointer of bytes, the program's. -/
import Derived.Test.YtgbghmgipnphkaaQ4
import Derived.Laws.ResultCell
import Derived.Deep.MidRow
set_option maxRecDepth 10000
namespace Go.Proofs.Ytgbghmgipnphkaa
open Go.RowKit

/-- What bytes say of a pointer. -/
def atN (l : List UInt8) : Nat := numF (l.take 4)
def bornN (l : List UInt8) : Nat := numF ((l.drop 4).take 8)
def sumN (l : List UInt8) : Nat := numF (l.drop 12)
theorem get_ptr {l : List UInt8} (h : l.length = 16) : getF [4, 8, 4] l = some [atN l, bornN l, sumN l] := by
  unfold getF getF getF getF
  rw [if_pos ⟨by omega, by omega, by rw [h]; omega⟩, if_pos ⟨by omega, by omega, by rw [List.length_drop, h]; decide⟩, if_pos ⟨by omega, by omega, by rw [List.length_drop, List.length_drop, h]; decide⟩]
  have e : ((l.drop (4 : Int).toNat).drop (8 : Int).toNat).drop (4 : Int).toNat = [] := by
    rw [List.drop_drop, List.drop_drop]
    exact List.drop_of_length_le (by rw [h]; decide)
  rw [if_pos e]
  have e2 : ((l.drop (4 : Int).toNat).drop (8 : Int).toNat).take (4 : Int).toNat = l.drop 12 := by
    rw [List.drop_drop]
    exact List.take_of_length_le (by rw [List.length_drop, h]; decide)
  rw [e2]
  rfl
theorem get_ptr_no {l : List UInt8} (h : l.length ≠ 16) : getF [4, 8, 4] l = none := get_unlike (by
  intro e
  have e' : (l.length : Int) = 16 := e
  omega)
theorem at_lt {l : List UInt8} (h : l.length = 16) : atN l < 4294967296 := by
  have := numF_lt (l.take 4)
  rw [List.length_take, h] at this
  exact this
theorem born_lt {l : List UInt8} (h : l.length = 16) : bornN l < 18446744073709551616 := by
  have := numF_lt ((l.drop 4).take 8)
  rw [List.length_take, List.length_drop, h] at this
  exact this
theorem sum_lt {l : List UInt8} (h : l.length = 16) : sumN l < 4294967296 := by
  have := numF_lt (l.drop 12)
  rw [List.length_drop, h] at this
  exact this
theorem get_yes (A A' : Option Addr) (c c' : Nat) (l : List UInt8) (h : l.length = 16) (hc : 16 ≤ c') (w : World) (h1 : Rd w w.heap.size A (wds [4, 8, 4])) (h2 : Rd w w.heap.size A' (bys l)) :
    Calls Try.prog 30 #[.slice A 3 c, .slice A' 16 c'] w fun e w' => ∃ A2 c2, e = .returned (.tuple #[.slice A2 3 c2, .int .i64 0]) ∧ Rd w' w'.heap.size A2 (uns [atN l, bornN l, sumN l]) ∧ 3 ≤ c2 ∧ Below w.heap.size w w' := by
  have H := get_any A A' c c' [4, 8, 4] l w h1 h2 (by omega) (by simp)
  rw [h] at H
  refine H.mono ?_
  rintro e w' ⟨A2, c2, he, h3, h4, h5⟩
  rw [get_ptr h] at he h3 h4
  exact ⟨A2, c2, he, h3, h4, h5⟩
theorem get_no' (A A' : Option Addr) (c c' : Nat) (l : List UInt8) (h : l.length ≠ 16) (hc : l.length ≤ c') (w : World) (h1 : Rd w w.heap.size A (wds [4, 8, 4])) (h2 : Rd w w.heap.size A' (bys l)) :
    Calls Try.prog 30 #[.slice A 3 c, .slice A' l.length c'] w fun e w' => ∃ A2 c2, e = .returned (.tuple #[.slice A2 0 c2, .int .i64 21]) ∧ Below w.heap.size w w' := by
  refine (get_any A A' c c' [4, 8, 4] l w h1 h2 hc (by simp)).mono ?_
  rintro e w' ⟨A2, c2, he, h3, h4, h5⟩
  rw [get_ptr_no h] at he
  exact ⟨A2, c2, he, h5⟩
/-- A stretch of a block is written. -/
theorem Blk.setCells {g : Nat} {t : TypeId} : ∀ (vs : List Value) (o : Nat) {w : World} {cs : Array Value}, Blk w g t cs → o + vs.length ≤ cs.size →
    ∃ cs' : Array Value, Blk (w.setCells g o vs) g t cs' ∧ cs'.size = cs.size ∧ ∀ k, cs'[k]? = if o ≤ k ∧ k < o + vs.length then vs[k - o]? else cs[k]?
  | [], o, w, cs, h, _ => ⟨cs, h, rfl, fun k => by rw [if_neg (by simp)]⟩
  | v :: r, o, w, cs, h, hl => by
    simp only [List.length_cons] at hl
    obtain ⟨cs', h1, h2, h3⟩ := Blk.setCells r (o + 1) (h.set_ o v) (by simp; omega)
    refine ⟨cs', h1, by rw [h2]; simp, fun k => ?_⟩
    rw [h3 k]
    simp only [List.length_cons]
    rcases Nat.lt_trichotomy k o with hk | hk | hk
    · rw [if_neg (by omega), if_neg (by omega), Array.getElem?_setIfInBounds_ne (by omega)]
    · subst hk
      rw [if_neg (by omega), if_pos (by omega)]
      simp only [Nat.sub_self, List.getElem?_cons_zero]
      rw [Array.getElem?_setIfInBounds_self_of_lt (by omega)]
    · by_cases hk2 : k < o + (r.length + 1)
      · rw [if_pos (by omega), if_pos (by omega), show k - o = (k - (o + 1)) + 1 by omega, List.getElem?_cons_succ]
      · rw [if_neg (by omega), if_neg (by omega), Array.getElem?_setIfInBounds_ne (by omega)]
theorem Blk.setTo {w : World} {g : Nat} {t : TypeId} {cs cs' : Array Value} (h : Blk w g t cs) (o : Nat) (vs : List Value) (ho : o + vs.length ≤ cs.size)
    (hc : ∀ k, cs'[k]? = if o ≤ k ∧ k < o + vs.length then vs[k - o]? else cs[k]?) : Blk (w.setCells g o vs) g t cs' := by
  obtain ⟨c, h1, _, h3⟩ := Blk.setCells vs o h ho
  rw [show cs' = c from Array.ext_getElem? fun k => (hc k).trans (h3 k).symm]
  exact h1
theorem Blk.range {w : World} {g : Nat} {t : TypeId} {cs : Array Value} (h : Blk w g t cs) (o : Nat) (vs : List Value) (hv : ∀ j v, vs[j]? = some v → cs[o + j]? = some v) : w.rangeAt g o vs := fun j v hj => (h.cell (o + j)).trans (hv j v hj)
theorem Blk.there {w : World} {g : Nat} {t : TypeId} {cs : Array Value} (h : Blk w g t cs) (o n : Nat) (hn : o + n ≤ cs.size) : w.there g o n := fun j hj =>
  ⟨by rw [h.cell]; simp; omega, h.frozen _⟩
theorem Blk.setAll {w : World} {g : Nat} {t : TypeId} {cs : Array Value} (h : Blk w g t cs) (vs : List Value) (hl : vs.length = cs.size) : Blk (w.setCells g 0 vs) g t vs.toArray :=
  h.setTo 0 vs (by omega) fun k => by
    by_cases hk : k < vs.length
    · rw [if_pos (by omega), List.getElem?_toArray]; rfl
    · rw [if_neg (by omega), List.getElem?_toArray, List.getElem?_eq_none (by omega), Array.getElem?_eq_none (by omega)]
theorem results_row_tmp {P : Program} {fn : Func} {p u : Tmp} {ty : TypeId} (h : fn.results = #[.cell p ty, .tmp u]) (tmps : Array Value) (w : World) (g : Nat) (t : TypeId) (cs : Array Value) (fr : Nat × Nat) (d : TypeDesc)
    (hp : tmps.getD p undef = .pointer (some ⟨g, 0, none⟩)) (hg : w.heap[g]? = some (.cells cs t fr))
    (hu : P.underlying ty = some d) (hd : (match d with | .struct _ | .array _ _ => true | _ => false) = true) (hi : (P.info? ty).map (·.size) = some cs.size) :
    (results fn tmps).run P w = .ok (.tuple #[.agg cs, tmps.getD u undef]) w := by
  have hp' : tmps[p]?.getD undef = .pointer (some ⟨g, 0, none⟩) := by simpa using hp
  simp [results, h, hp', asAddr, run_loadVar_row w g t ty cs fr d hg hu hd hi]
theorem Below.setCells {B : Nat} {a : World} (b : Nat) (hB : B ≤ b) : ∀ (vs : List Value) (o : Nat) {w : World}, Below B a w → Below B a (w.setCells b o vs)
  | [], _, _, h => h
  | _ :: vs, o, _, h => Below.setCells b hB vs (o + 1) (h.setCell hB _)
/-- The cells of a pointer. -/
abbrev pcs (a b s : Int) : Array Value := #[.int .i64 a, .int .u64 b, .int .u32 s]
theorem ptr_size : (Try.prog.info? 30).map (·.size) = some 3 := by kernel_rfl
/-- A pointer is stored in a block of its own. -/
theorem st_ptr {ops : Array Oper} {rest : List Oper} {o : Oper} {act : Act} {w : World} {Q : Exit → Act → World → Prop} (hgd : o.guard = none) (x y : Operand) (ho : o.op = .store 30 x y)
    (g : Nat) (t : TypeId) (cs : Array Value) (a b s : Int) (hx : act.eval x = .pointer (some ⟨g, 0, none⟩)) (hy : act.eval y = ptv a b s) (hB : Blk w g t cs) (h3 : cs.size = 3)
    (h : ∀ w', Blk w' g t (pcs a b s) → (∀ B a0, Below B a0 w → B ≤ g → Below B a0 w') → wpList Try.prog ops Q rest (act.put o.dst undef) w') : wpList Try.prog ops Q (o :: rest) act w := by
  refine wpList_store_mid hgd _ x y ho g 0 (pcs a b s) hx hy (hB.there 0 3 (by omega)) ptr_size (by simp [Value.oneCell']) ?_
  exact h _ (hB.setAll [.int .i64 a, .int .u64 b, .int .u32 s] (by rw [h3]; rfl)) fun B a0 hb hg => Below.setCells g hg _ _ hb
theorem ld_ptr {ops : Array Oper} {rest : List Oper} {o : Oper} {act : Act} {w : World} {Q : Exit → Act → World → Prop} (hgd : o.guard = none) (x : Operand) (ho : o.op = .load 30 x)
    (g : Nat) (t : TypeId) (a b s : Int) (hx : act.eval x = .pointer (some ⟨g, 0, none⟩)) (hB : Blk w g t (pcs a b s))
    (h : wpList Try.prog ops Q rest (act.put o.dst (ptv a b s)) w) : wpList Try.prog ops Q (o :: rest) act w :=
  wpList_load_mid hgd _ x ho g 0 hx [.int .i64 a, .int .u64 b, .int .u32 s] _ (hB.range 0 _ fun j v hv => by rw [Nat.zero_add, List.getElem?_toArray]; exact hv) Try.underlying30 rfl ptr_size h
theorem ret_ptr {w : World} {g : Nat} {t : TypeId} {a b s : Int} {fn : Func} {p u : Tmp} {tmps : Array Value} (hf : fn.results = #[.cell p 30, .tmp u]) (hB : Blk w g t (pcs a b s)) (hp : tmps.getD p undef = .pointer (some ⟨g, 0, none⟩)) :
    (results fn tmps).run Try.prog w = .ok (.tuple #[ptv a b s, tmps.getD u undef]) w :=
  results_row_tmp hf tmps w g t (pcs a b s) (0, 0) _ hp hB Try.underlying30 rfl ptr_size
abbrev wido : Obj := .cells #[.int .i64 4, .int .i64 8, .int .i64 4] 3
theorem below_two' (w : World) (o o' : Obj) : Below w.heap.size w ((w.alloc o).alloc o') := ((Below.refl w.heap.size w).alloc (by omega) o).alloc (by simp) o'
theorem wid_rd2 (w : World) (o : Obj) : Rd ((w.alloc o).alloc wido) ((w.alloc o).alloc wido).heap.size (some ⟨w.heap.size + 1, 0, none⟩) (wds [4, 8, 4]) := by
  have h := rd_new (w.alloc o) #[.int .i64 4, .int .i64 8, .int .i64 4] 3
  have e : (w.alloc o).heap.size = w.heap.size + 1 := by simp
  rw [e] at h
  exact h
theorem read_long (A : Option Addr) (c : Nat) (l : List UInt8) (h : l.length ≠ 16) (hc : l.length ≤ c) (w : World) (hs : Rd w w.heap.size A (bys l)) :
    Calls Try.prog 23 #[.slice A l.length c] w fun e w' => e = .returned (.tuple #[ptv 0 0 0, .int .i64 51]) ∧ Below w.heap.size w w' := by
  have HG := Lib.hid (fun A2 c2 => get_no' A2 A c2 c l h hc)
  have HW := Lib.hid widths_any
  clear h hc
  go_enter Try.func23, Try.ntmps23
  go_wp2_with (go_at_call 27; refine (HW.out _).mono ?_; rintro e w1 ⟨rfl, rfl⟩)
  refine (HG.out _ _ _ (wid_rd2 w _) (((hs.below (below_two' w _ _)).mono (by simp; omega)))).mono ?_
  rintro e w3 ⟨A2, c2, rfl, hb3⟩
  have hB : Blk w3 w.heap.size 30 (pcs 0 0 0) := ((Blk.new w _ _).below ((Below.refl _ _).alloc (Nat.le_refl _) _) (by simp)).below hb3 (by simp; omega)
  have hb := (below_two' w _ _).trans (hb3.mono (by simp; omega))
  clear hb3
  have hle : w.heap.size ≤ w.heap.size := Nat.le_refl _
  have HB := Lib.hid hb
  have hB' := Lib.hid hB
  clear hb hB
  go_wp2_with (refine st_ptr rfl (.tmp 2) (.tmp 15) rfl w.heap.size 30 _ 0 0 0 rfl rfl hB'.out rfl ?_; intro w4 hB4 hk4)
  refine bodyPost_ret (ret_ptr rfl hB4 rfl) rfl ⟨rfl, hk4 _ _ HB.out hle⟩
theorem rread_long (A : Option Addr) (c : Nat) (l : List UInt8) (h : l.length ≠ 16) (w : World) :
    Calls Try.prog 24 #[.slice A l.length c] w fun e w' => e = .returned (.tuple #[ptv 0 0 0, .int .i64 51]) ∧ Below w.heap.size w w' := by
  have hne : ((l.length : Int) != 16) = true := by rw [bne_iff_ne]; omega
  have hB := Lib.hid (Blk.new w 30 (pcs 0 0 0))
  have hb := Lib.hid ((Below.refl w.heap.size w).alloc (by omega) (.cells (pcs 0 0 0) 30))
  clear h
  go_enter Try.func24, Try.ntmps24
  go_wp2_with (refine st_ptr rfl (.tmp 2) (.tmp 8) rfl w.heap.size 30 _ 0 0 0 rfl rfl hB.out rfl ?_; intro w4 hB4 hk4)
  refine bodyPost_ret (ret_ptr rfl hB4 rfl) rfl ⟨rfl, hk4 _ _ hb.out (Nat.le_refl _)⟩
end Go.Proofs.Ytgbghmgipnphkaa
