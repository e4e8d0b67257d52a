/- Rows of pointers of the law's own beside a pile; appends of many; what stands in TreeTold's loop. -/
import Derived.Test.YtagkhicbngaghaaT10
set_option maxRecDepth 10000
namespace Go.Proofs.Ytagkhicbngaghaa
open Go.RowKit

theorem pqs_app (a b : List PtrV) : pqs (a ++ b) = pqs a ++ pqs b := by simp [pqs]
/-- append of many pointers, of a row that is read. -/
theorem app_qs {ops : Array Oper} {rest : List Oper} {o : Oper} {a : Act} {w : World} {Q : Exit → Act → World → Prop} (hgd : o.guard = none) (s x : Nat)
    (ho : o.op = .call { callee := .builtin .append, args := #[.tmp s, .tmp x], argTypes := #[37, 37] })
    (base : Nat) (v : Value) (l m : List PtrV) (hs : a.eval (.tmp s) = v) (hown : OwnQ w base v l) (B : Nat) (A : Option Addr) (n c : Nat)
    (hx : a.eval (.tmp x) = .slice A n c) (hm : m.length = n) (hr : Rd w B A (pqs m)) (hbase : base ≤ w.heap.size) (hn : l.length + m.length ≤ 1048576)
    (h : ∀ v' w', OwnQ w' base v' (l ++ m) → w.grownBy w' v.ownBlock → (∀ k, v'.ownBlock = some k → v.ownBlock = some k ∨ w.heap.size ≤ k) → wpList Try.prog ops Q rest (a.put o.dst v') w') :
    wpList Try.prog ops Q (o :: rest) a w := by
  subst hm
  obtain ⟨i0, hi0, hz0, hz2, hz3⟩ := info_parts infoPtr
  rcases Nat.eq_zero_or_pos m.length with h0 | h0
  · obtain rfl : m = [] := List.eq_nil_of_length_eq_zero h0
    refine wpList_plain hgd fun K hK => ?_
    have hrun := run_app_none (P := Try.prog) w base 37 o.type 32 i0 3 Try.underlying37 hi0 v l.length (pqs l) hown A c
    unfold Oper.wp execOp
    simp only [ho, resolve, invoke, builtin, Sem.run_bind, Sem.run_pure, Result.andThen_ok, List.map_toArray, List.map_cons, List.map_nil, hs, hx, List.length_nil, hrun]
    refine hK _ _ (h v w (by simpa using hown) ⟨rfl, rfl, rfl, Nat.le_refl _, fun _ _ _ => rfl⟩ fun k hk => .inl hk)
  · obtain ⟨b, off, rfl, _, _⟩ := hr (by rw [pqs_len]; omega)
    refine wpList_append_lies _ hgd (.tmp s) (.tmp x) _ ho base 32 i0 _ 3 24 Try.underlying37 hi0 hz0 hz2 hz3 rfl (by omega) v l.length (pqs l) hs hown
      ⟨b, off, none⟩ m.length c (pqs m) hx (pqs_len m) (rd_add hr) pqs_one h0 (by simp only [maxLen]; omega) (by omega) hbase w.heap.size rfl ?_
    intro g cap w' h1 h2 h3 _
    refine h _ w' ?_ h2 fun k hk => ?_
    · show w'.ownsRow base 32 3 _ (l ++ m).length (pqs (l ++ m))
      rw [pqs_app, List.length_append]
      exact h1
    · have hk' : g = k := by simpa [Value.ownBlock] using hk
      rcases h3 with h3 | h3
      · left; rw [h3, hk']
      · right; omega
theorem ownQ_nil (w : World) (base : Nat) (hb : base ≤ w.heap.size) : OwnQ (w.alloc (.cells #[] 32)) base (.slice (some ⟨w.heap.size, 0, none⟩) 0 0) [] := by
  have h := World.ownsRow_lit (base := base) (e := 32) (size := 3) w #[] 0 hb (by simp [maxLen]) rfl
  simpa [OwnQ, pqs] using h
/-- A row of the law's own that no call on the pile turns. -/
structure RowA (w : World) (O : Nat → Prop) (base : Nat) (v : Value) (l : List PtrV) : Prop where
  own : OwnQ w base v l
  far : ∀ b, v.ownBlock = some b → ¬ O b
section
variable {w w' : World} {O O' X : Nat → Prop} {base : Nat} {v v' : Value} {l m : List PtrV}
theorem RowA.chg (h : RowA w O base v l) (hc : Chg w w' X) (hn : ∀ b, v.ownBlock = some b → ¬ X b) : RowA w' O base v l := ⟨own_chg h.own hc hn, h.far⟩
theorem RowA.step (h : RowA w O base v l) (s : Step w w' O O') : RowA w' O' base v l :=
  ⟨own_chg h.own s.chg h.far, fun b hb ho => (s.new b ho).elim (h.far b hb) fun h2 => by have := (h.own.lt b hb).2; omega⟩
theorem RowA.later (h : RowA w O base v l) (hb : Below w.heap.size w w') : RowA w' O base v l := ⟨own_far h.own hb, h.far⟩
/-- Behind an append to it. -/
theorem RowA.app (h : RowA w O base v l) (hO : ∀ k, O k → k < w.heap.size) (ho : OwnQ w' base v' (l ++ m)) (hn : ∀ k, v'.ownBlock = some k → v.ownBlock = some k ∨ w.heap.size ≤ k) : RowA w' O base v' (l ++ m) :=
  ⟨ho, fun b hb hx => (hn b hb).elim (fun h1 => h.far b h1 hx) fun h1 => by have := hO b hx; omega⟩
end
theorem lowQ {w : World} {base : Nat} {v : Value} {l : List PtrV} (h : OwnQ w base v l) : ∃ A c, v = .slice A l.length c ∧ ∀ k (hk : k < l.length), ∃ b off, A = some ⟨b, off, none⟩ ∧ base ≤ b ∧ b < w.heap.size ∧
    w.cell? ⟨b, off + k * 3, none⟩ = some (.int .i64 l[k].1) ∧ w.cell? ⟨b, off + k * 3 + 1, none⟩ = some (.int .u64 l[k].2.1) ∧ w.cell? ⟨b, off + k * 3 + 2, none⟩ = some (.int .u32 l[k].2.2) := by
  obtain ⟨A, c, e, h1, _⟩ := own_rd h
  refine ⟨A, c, e, fun k hk => ?_⟩
  obtain ⟨g, cap, e', hN, hl, _⟩ := own_form h (by omega)
  rw [e] at e'
  obtain ⟨b, off, rfl, h3, h4, h5, h6⟩ := pq_at h1 k hk
  simp only [Value.slice.injEq, Option.some.injEq, Addr.mk.injEq] at e'
  exact ⟨b, off, rfl, by omega, h3, h4, h5, h6⟩
theorem RowA.rdA {w : World} {O : Nat → Prop} {base n c : Nat} {A : Option Addr} {l : List PtrV} (h : RowA w O base (.slice A n c) l) : RdA w O A (pqs l) := by
  obtain ⟨A', c', e, hX, _⟩ := own_rd h.own
  simp only [Value.slice.injEq] at e
  obtain ⟨rfl, _, _⟩ := e
  exact ⟨hX, fun b off e hp ho => h.far b (by rw [e]; rfl) ho⟩
theorem all_nat {n : Nat} {P : Pw} {root : PtrV} {F : P8} {S : Nat → P8} {T : Nat → Sec} {old : List PtrV} (h : Good n P root F S T old) {a : Int} {r : PtrV} (hr : r ∈ allL a root F S) : r ≠ hole0 ∧ 0 ≤ r.1 := by
  have hne := (since_iff.1 (all_mem hr)).1
  have key : ∀ x, Held P r x → 0 ≤ r.1 := fun x hx => by
    obtain ⟨i, hi, _⟩ := hx.at_ hne
    omega
  refine ⟨hne, ?_⟩
  unfold allL at hr
  split at hr
  · rcases List.mem_cons.1 hr with rfl | hr
    · exact key _ h.tree.top
    · obtain ⟨k, hk, hr⟩ := List.mem_flatMap.1 hr
      have hk8 := List.mem_range.1 hk
      unfold allK at hr
      split at hr
      · rcases List.mem_cons.1 hr with rfl | hr
        · exact key _ (h.tree.mid k hk8)
        · obtain ⟨j, hj, rfl⟩ := List.getElem_of_mem (List.mem_filter.1 hr).1
          have hj8 : j < 8 := by rw [(S k).h] at hj; exact hj
          rw [← at_eq (S k) j hj8] at key ⊢
          have hb := h.tree.blk (8 * k + j) (by omega)
          rw [show (8 * k + j) / 8 = k by omega, show (8 * k + j) % 8 = j by omega] at hb
          exact key _ hb
      · cases hr
  · cases hr
section
variable {At : World → (Nat → Prop) → Nat → Pw → Prop} {n : Nat} {w wr W W3 : World} {O O' : Nat → Prop} {g gr : Nat} {P P' : Pw} {ra rb rc ra' rb' rc' : Int} {old kk : List PtrV} {k : Nat} {B : Option Addr}
/-- A change whose pointer goes right into the box. -/
theorem SL.into (L : TreeCalls At) (h : SL At n w wr O g gr P ra rb rc old k) (c : Change At n wr W O O' g P P' (ra', rb', rc') old kk B) (hch : Chg W W3 (· = gr)) (hbox : Blk W3 gr 32 (pcs ra' rb' rc')) :
    SL At n w W3 O' g gr P' ra' rb' rc' (old ++ kk) (k + 1) :=
  h.done (g11 := gr) L c (hch.mono fun _ _ e => .inl e) (h.box.step c.step).far h.lo hbox
/-- An append to a row of the law's own. -/
theorem SL.grown (L : TreeCalls At) (h : SL At n w wr O g gr P ra rb rc old k) {base : Nat} {v : Value} {l : List PtrV} (hr : RowA wr O base v l) (hb : w.heap.size ≤ base) (hgr : gr < base) (hg : wr.grownBy W v.ownBlock) : SL At n w W O g gr P ra rb rc old k := by
  have hc : Chg wr W (fun b => v.ownBlock = some b) := (Chg.refl _ _).grown hg fun _ hk => .inl hk
  refine ⟨⟨L.stay h.has.at_ hc fun b ho hx => hr.far b hx ho, h.has.lo, h.has.below.trans (hc.below (fun b hx => Nat.le_trans hb (hr.own.lt b hx).1) h.has.below.size)⟩, h.good, ⟨h.box.blk.chg hc fun hx => ?_, h.box.far⟩, h.lo, h.st, h.N, h.cnt, h.tot⟩
  have := (hr.own.lt gr hx).1
  omega
theorem SL.bump (h : SL At n w wr O g gr P ra rb rc old k) : SL At n w wr O g gr P ra rb rc (old ++ []) (k + 1) :=
  ⟨h.has, by rw [List.append_nil]; exact h.good, h.box, h.lo, by have := h.st; omega, by have := h.N; omega, by have := h.cnt; omega, h.tot⟩
end
end Go.Proofs.Ytagkhicbngaghaa
