/- The texts Y2 Y3 Y9 Y13 Y11. -/
import Derived.Test.YtdcegkeaopjbnaaHA
import Derived.Test.YtdcegkeaopjbnaaOC
import Derived.Test.YtdcegkeaopjbnaaTA
set_option maxRecDepth 10000
namespace Go.Proofs.Ytdcegkeaopjbnaa

section
open Go.RowKit

/-- Eight pointers, a way, stored in a block of their own. -/
theorem st_p8c {ops : Array Oper} {rest : List Oper} {o : Oper} {a : Act} {w : World} {Q : Exit → Act → World → Prop} (hgd : o.guard = none) (x y : Operand) (ho : o.op = .store 84 x y)
    (b : Nat) (t : TypeId) (u v : P8) (hx : a.eval x = .pointer (some ⟨b, 0, none⟩)) (hy : a.eval y = .agg v.cs.toArray) (hb : Blk w b t u.cs.toArray)
    (h : ∀ w', Blk w' b t v.cs.toArray → Chg w w' (· = b) → wpList Try.prog ops Q rest (a.put o.dst undef) w') : wpList Try.prog ops Q (o :: rest) a w := by
  refine st_p8 hgd x y ho b 0 v hx hy hb.p8Has fun w' hw => ?_
  rw [hw.out]
  exact h _ (hb.p8All v) (Chg.setCells (O := (· = b)) (.inl rfl) _ _ (Chg.refl _ _))
theorem ret_p8 {w : World} {g : Nat} {t : TypeId} {x : P8} {fn : Func} {p u : Tmp} {tmps : Array Value} (hf : fn.results = #[.cell p 84, .tmp u]) (hB : Blk w g t x.cs.toArray) (hp : tmps.getD p undef = .pointer (some ⟨g, 0, none⟩)) :
    (results fn tmps).run Try.prog w = .ok (.tuple #[.agg x.cs.toArray, tmps.getD u undef]) w :=
  results_row_tmp hf tmps w g _ _ (0, 0) _ hp hB Try.underlying84 rfl (sizeP8'' x)
theorem run_wholeSec (g : Nat) (w : World) :
    (Instr.sliceAt 46 (.pointer (some ⟨g, 0, none⟩)) none none none).run Try.prog w = .ok (.slice (some ⟨g, 0, none⟩) 128 128) w := by
  rw [run_sliceAt_array_all w _ ⟨g, 0, none⟩ (by simp [Program.arrayLen, Program.elem, Try.underlying46]), run_sizeSecE]
  simp only [Result.andThen_ok, slicedAt, arrLenSec, Nat.zero_mul]
  rw [if_neg (by omega), addr_flat, Nat.zero_add]
end
section
open Go.RowKit

section
variable {w w' : World} {O O2 : Nat → Prop} {g : Nat} {P : Pw}
theorem PileAt.foot (h : PileAt w O g P) (k : Nat) (hk : O k) : k < w.heap.size := by
  obtain ⟨B, D, pv, gm, s, hp, hO⟩ := h.ex
  exact hp.lt k ((hO k).1 hk)
theorem PileAt.stay (h : PileAt w O g P) (c : Chg w w' O2) (hn : ∀ k, O k → ¬ O2 k) : PileAt w' O g P := by
  obtain ⟨B, D, pv, gm, s, hp, hO⟩ := h.ex
  exact ⟨B, D, pv, gm, s, hp.stay c fun k hk => hn k ((hO k).2 hk), hO⟩
theorem PileAt.far (h : PileAt w O g P) (hb : Below w.heap.size w w') : PileAt w' O g P := h.stay (Chg.of_below (O := fun _ => False) hb) fun _ _ => id
theorem pileGet (h : PileAt w O g P) (q : PtrV) : Calls Try.prog 19 #[.pointer (some ⟨g, 0, none⟩), ptq q] w fun e w' => ∃ O', e = .returned (.tuple #[.agg (getS P q).1.cs.toArray, .int .i64 (getS P q).2]) ∧ PileAt w' O' g P ∧ Step w w' O O' := by
  obtain ⟨B, D, pv, gm, s, hp, hO⟩ := h.ex
  obtain ⟨a, b, c⟩ := q
  exact (pget_any hp hO a b c).mono fun e w' ⟨s', e1, e2, e3⟩ => ⟨_, e1, ⟨B, D, pv, gm, s', e2, hO⟩, e3⟩
end
/-- A pile since the world w0, when it lay in O0; a block of a call's own, made since. -/
structure Sta (w0 : World) (O0 : Nat → Prop) (w : World) (O : Nat → Prop) (g : Nat) (P : Pw) : Prop where
  at_ : PileAt w O g P
  st : Step w0 w O0 O
structure Bx (w0 w : World) (O : Nat → Prop) (b : Nat) (t : TypeId) (cs : Array Value) : Prop where
  blk : Blk w b t cs
  far : ¬ O b
  lo : w0.heap.size ≤ b
section
variable {w0 w w' : World} {O0 O O' : Nat → Prop} {g b b' : Nat} {t t' : TypeId} {cs cs' : Array Value} {P P' : Pw}
theorem Sta.first (h : PileAt w O g P) : Sta w O w O g P := ⟨h, step_refl w O⟩
theorem Sta.size (h : Sta w0 O0 w O g P) : w0.heap.size ≤ w.heap.size := h.st.chg.size
theorem Sta.call (h : Sta w0 O0 w O g P) (hp : PileAt w' O' g P') (s : Step w w' O O') : Sta w0 O0 w' O' g P' := ⟨hp, h.st.trans s⟩
theorem Sta.far (h : Sta w0 O0 w O g P) (hb : Below w.heap.size w w') : Sta w0 O0 w' O g P := ⟨h.at_.far hb, h.st.trans (step_below hb)⟩
theorem Sta.alloc (h : Sta w0 O0 w O g P) (o : Obj) : Sta w0 O0 (w.alloc o) O g P := h.far ((Below.refl _ _).alloc (Nat.le_refl _) _)
theorem Sta.drew (h : Sta w0 O0 w O g P) : Sta w0 O0 w.drew O g P := h.far (Below.refl _ _).drew
theorem Sta.aside (h : Sta w0 O0 w O g P) (hB : Bx w0 w O b t cs) (c : Chg w w' (· = b)) : Sta w0 O0 w' O g P :=
  ⟨h.at_.stay c fun k hk e => hB.far (e ▸ hk), ⟨h.st.chg.trans c fun k hk e => absurd hB.lo (by omega), h.st.new⟩⟩
theorem Bx.new (h : Sta w0 O0 w O g P) (t : TypeId) (cs : Array Value) : Bx w0 (w.alloc (.cells cs t)) O w.heap.size t cs :=
  ⟨Blk.new w t cs, fun hk => by have := h.at_.foot _ hk; omega, h.size⟩
theorem Bx.lt (h : Bx w0 w O b t cs) : b < w.heap.size := h.blk.lt
theorem Bx.step (h : Bx w0 w O b t cs) (s : Step w w' O O') : Bx w0 w' O' b t cs :=
  ⟨h.blk.chg s.chg h.far, fun ho => (s.new b ho).elim h.far fun hs => by have := h.blk.lt; omega, h.lo⟩
theorem Bx.later (h : Bx w0 w O b t cs) (hb : Below w.heap.size w w') : Bx w0 w' O b t cs := ⟨h.blk.below hb h.blk.lt, h.far, h.lo⟩
theorem Bx.alloc (h : Bx w0 w O b t cs) (o : Obj) : Bx w0 (w.alloc o) O b t cs := h.later ((Below.refl _ _).alloc (Nat.le_refl _) _)
theorem Bx.drew (h : Bx w0 w O b t cs) : Bx w0 w.drew O b t cs := h.later (Below.refl _ _).drew
theorem Bx.aside (h : Bx w0 w O b t cs) (c : Chg w w' (· = b')) (hn : b ≠ b') : Bx w0 w' O b t cs := ⟨h.blk.chg c hn, h.far, h.lo⟩
theorem Bx.put (h : Bx w0 w O b t cs) (k : Blk w' b t cs') : Bx w0 w' O b t cs' := ⟨k, h.far, h.lo⟩
theorem Bx.rd {l : List Value} (h : Bx w0 w O b t l.toArray) : RdA w O (some ⟨b, 0, none⟩) l :=
  ⟨fun _ => ⟨b, 0, rfl, h.lt, fun j v hv => by rw [Nat.zero_add, h.blk.cell j, List.getElem?_toArray]; exact hv⟩, fun b' off e _ => by
    simp only [Option.some.injEq, Addr.mk.injEq] at e
    obtain ⟨rfl, _⟩ := e
    exact h.far⟩
/-- Two blocks made one behind another. -/
theorem two_new (h : Sta w0 O0 w O g P) (t t' : TypeId) (cs cs' : Array Value) : ∃ W, W = (w.alloc (.cells cs t)).alloc (.cells cs' t') ∧ Sta w0 O0 W O g P ∧ Bx w0 W O w.heap.size t cs ∧ Bx w0 W O (w.heap.size + 1) t' cs' := by
  have h1 := h.alloc (.cells cs t)
  have h2 := Bx.new h1 t' cs'
  have e : (w.alloc (.cells cs t)).heap.size = w.heap.size + 1 := by simp
  rw [e] at h2
  exact ⟨_, rfl, h1.alloc _, (Bx.new h t cs).alloc _, h2⟩
end
section
variable {w0 w : World} {O0 O : Nat → Prop} {g : Nat} {P : Pw}
end
end
section
open Go.RowKit

section
variable {w w1 w' w'' : World} {O O' : Nat → Prop} {g b i : Nat} {P : Pw} {root q : PtrV} {F : P8} {S : Nat → P8} {T : Nat → Sec} {x : Sec} {A : Option Addr} {xs : List Value}
theorem RdF.aside (h : RdF w1 w' O' A xs) (c : Chg w' w'' (· = b)) (hb : b < w1.heap.size) (hle : w.heap.size ≤ w1.heap.size) : RdF w w'' O' A xs :=
  ⟨⟨fun hn => by
    obtain ⟨b', off, e, hl, hc⟩ := h.rd hn
    exact ⟨b', off, e, Nat.lt_of_lt_of_le hl c.size, fun j v hv => (c.cell hl (fun e2 => by have := h.fresh b' off e hn; omega) _).trans (hc j v hv)⟩, h.apart⟩,
    fun b' off e hn => Nat.le_trans hle (h.fresh b' off e hn)⟩
end
end
section
open Go.RowKit

theorem RdF.mono {w w1 w' : World} {O : Nat → Prop} {A : Option Addr} {xs : List Value} (h : RdF w1 w' O A xs) (hle : w.heap.size ≤ w1.heap.size) : RdF w w' O A xs := ⟨h.toRdA, fun b off e hn => Nat.le_trans hle (h.fresh b off e hn)⟩
section
variable {w : World} {O : Nat → Prop} {g : Nat} {P : Pw} {root : PtrV} {F : P8} {S : Nat → P8} {T : Nat → Sec}
theorem rdF_none (w w' : World) (O : Nat → Prop) : RdF w w' O none [] := ⟨⟨Rd.nil, fun b off e => by cases e⟩, fun b off e => by cases e⟩
end
end
section
open Go.RowKit

/-! ### As mathematics -/
section
variable (f : PtrV → Bool) (root : PtrV) (F : P8) (S : Nat → P8)
end
section
variable {f : PtrV → Bool} {root : PtrV} {F : P8} {S : Nat → P8} {i : Nat}
end
section
variable {P : Pw} {root : PtrV} {F : P8} {S : Nat → P8} {T : Nat → Sec}
end
/-! ### What stands while the walk goes -/
section
variable {w : World} {g : Nat} {t : TypeId} {p q : P8}
end
/-- append of a pointer that lies in a block of its own, in a region that draws its order. -/
theorem step_appP {ops : Array Oper} {o : Oper} {a : Act} {w : World} {K : Act → World → Prop} {Q : Exit → Act → World → Prop} {E : Prop} (hgd : o.guard = none) (s x : Nat)
    (ho : o.op = .call { callee := .builtin .append, args := #[.tmp s, .tmp x], argTypes := #[40, 40] })
    (base : Nat) (v : Value) (l : List PtrV) (hs : a.eval (.tmp s) = v) (hown : OwnQ w base v l) (q : PtrV) (g0 : Nat) (hg : Blk w g0 25 (pcs q.1 q.2.1 q.2.2)) (hx : a.eval (.tmp x) = .slice (some ⟨g0, 0, none⟩) 1 1) (hbase : base ≤ w.heap.size) (hn : l.length ≤ 1048576)
    (h : ∀ v' w', OwnQ w' base v' (l ++ [q]) → w.grownBy w' v.ownBlock → (∀ k, v'.ownBlock = some k → v.ownBlock = some k ∨ w.heap.size ≤ k) → K (a.put o.dst v') w') : if Region.wanted o (yielded ops a.tmps) = true then Oper.wp Try.prog o a w K Q else E := by
  obtain ⟨i0, hi0, hz0, hz2, hz3⟩ := info_parts infoPtr
  refine step_append_lies w hgd (.tmp s) (.tmp x) _ ho base 25 i0 _ 3 24 Try.underlying40 hi0 hz0 hz2 hz3 rfl (by omega) v l.length (pqs l) hs hown
    ⟨g0, 0, none⟩ 1 1 [.int .i64 q.1, .int .u64 q.2.1, .int .u32 q.2.2] hx rfl (fun j u hv => ?_) (by simp [Value.oneCell']) (by omega) (by simp only [maxLen]; omega) (by omega) hbase w.heap.size rfl ?_
  · rw [addr_flat, Nat.zero_add, hg.cell j, List.getElem?_toArray]
    exact hv
  · intro g cap w' h1 h2 h3 _
    refine h _ w' ?_ h2 fun k hk => ?_
    · show w'.ownsRow base 25 3 _ (l ++ [q]).length (pqs (l ++ [q]))
      rw [pqs_snoc, List.length_append]
      exact h1
    · have hk' : g = k := by simpa [Value.ownBlock] using hk
      rcases h3 with h3 | h3
      · left; rw [h3, hk']
      · right; omega
/-- A row that no call on the pile turns. -/
structure Rw (w : World) (O : Nat → Prop) (base : Nat) (e : TypeId) (size : Nat) (v : Value) (n : Nat) (xs : List Value) : Prop where
  own : w.ownsRow base e size v n xs
  far : ∀ b, v.ownBlock = some b → ¬ O b
section
variable {w w' : World} {O O' X : Nat → Prop} {base size n n' : Nat} {e : TypeId} {v v' : Value} {xs xs' : List Value}
theorem rw_lt (h : w.ownsRow base e size v n xs) : ∀ g, v.ownBlock = some g → base ≤ g ∧ g < w.heap.size := fun g hg => by
  rcases h.2 with ⟨h0, _⟩ | ⟨g', cap, cur, rfl, hbg, hg', _⟩
  · rw [h0] at hg
    cases hg
  · have e : g' = g := by simpa [Value.ownBlock] using hg
    subst e
    exact ⟨hbg, (Array.getElem?_eq_some_iff.1 hg').1⟩
theorem Rw.chg (h : Rw w O base e size v n xs) (hc : Chg w w' X) (hn : ∀ b, v.ownBlock = some b → ¬ X b) : Rw w' O base e size v n xs := ⟨own_chg h.own hc hn, h.far⟩
theorem Rw.step (h : Rw w O base e size v n xs) (s : Step w w' O O') : Rw w' O' base e size v n xs :=
  ⟨own_chg h.own s.chg h.far, fun b hb ho => (s.new b ho).elim (h.far b hb) fun h2 => by have := (rw_lt h.own b hb).2; omega⟩
theorem Rw.later (h : Rw w O base e size v n xs) (hb : Below w.heap.size w w') : Rw w' O base e size v n xs := ⟨own_far h.own hb, h.far⟩
theorem Rw.app (h : Rw w O base e size v n xs) (hO : ∀ k, O k → k < w.heap.size) (ho : w'.ownsRow base e size v' n' xs') (hn : ∀ k, v'.ownBlock = some k → v.ownBlock = some k ∨ w.heap.size ≤ k) : Rw w' O base e size v' n' xs' :=
  ⟨ho, fun b hb hx => (hn b hb).elim (fun h1 => h.far b h1 hx) fun h1 => by have := hO b hx; omega⟩
end
section
variable {w0 w w' : World} {O0 O O' X : Nat → Prop} {g b0 b1 b2 B b b' : Nat} {P : Pw} {root : PtrV} {N0 N1 N0' N1' : P8} {vq vn v' : Value} {L : List PtrV} {M : List Int} {t t' : TypeId} {cs cs' : Array Value} {q : PtrV}
/-- What is handed back. -/
theorem Rw.out {w0 w : World} {O : Nat → Prop} {B size n : Nat} {e : TypeId} {v : Value} {xs : List Value} (h : Rw w O B e size v n xs) (hB : w0.heap.size ≤ B) (hx : 0 < xs.length → 0 < n) : ∃ A d, v = .slice A n d ∧ RdF w0 w O A xs := by
  obtain ⟨A, c, rfl, hr, _⟩ := own_rd h.own
  have hf : ∀ b off, A = some ⟨b, off, none⟩ → 0 < xs.length → B ≤ b ∧ (Value.slice A n c).ownBlock = some b := fun b off e hn => by
    obtain ⟨g, cap, e2, hg, _⟩ := own_form h.own (hx hn)
    rw [e] at e2
    simp only [Value.slice.injEq, Option.some.injEq, Addr.mk.injEq] at e2
    refine ⟨by omega, by rw [e]; rfl⟩
  exact ⟨A, c, rfl, ⟨hr, fun b off e hn ho => h.far b (hf b off e hn).2 ho⟩, fun b off e hn => by have := (hf b off e hn).1; omega⟩
end
end
end Go.Proofs.Ytdcegkeaopjbnaa
