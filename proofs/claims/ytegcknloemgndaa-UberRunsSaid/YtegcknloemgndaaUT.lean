/- Walks: the law on turns. -/
import Derived.Test.YtegcknloemgndaaU14
import Derived.Test.YtegcknloemgndaaEA
set_option maxRecDepth 10000
namespace Go.Proofs.Ytegcknloemgndaa
open Go.RowKit

/-! ### Acts in memory; what a round keeps -/
def zact : UAct := ⟨zub, 0, [], none, 0, by unfold I64; omega⟩
theorem infoAct : (Try.prog.info? 51).map (fun i => (i.zero, i.size, i.bytes)) = some (some (.agg zact.cs.toArray), 9, 88) := by kernel_rfl
theorem sizeAct : (Try.prog.info? 51).map (·.size) = some 9 := by kernel_rfl
theorem zeroAct (w : World) : Sem.run Try.prog (zeroValue 51) w = .ok (.agg zact.cs.toArray) w := by
  obtain ⟨i, hi, hz, _, _⟩ := info_parts infoAct
  simp [zeroValue, typeInfo, hi, hz]
theorem ld_act {ops : Array Oper} {rest : List Oper} {o : Oper} {a : Act} {w : World} {Q : Exit → Act → World → Prop} (hgd : o.guard = none) (x : Operand) (ho : o.op = .load 51 x)
    (b k : Nat) (s : UAct) (hx : a.eval x = .pointer (some ⟨b, k, none⟩)) (hr : w.rangeAt b k s.cs)
    (h : wpList Try.prog ops Q rest (a.put o.dst (.agg s.cs.toArray)) w) : wpList Try.prog ops Q (o :: rest) a w :=
  wpList_load_mid hgd _ x ho b k hx s.cs _ hr Try.underlying51 rfl sizeAct h
theorem st_act {ops : Array Oper} {rest : List Oper} {o : Oper} {a : Act} {w : World} {Q : Exit → Act → World → Prop} (hgd : o.guard = none) (x y : Operand) (ho : o.op = .store 51 x y)
    (b k : Nat) (s : UAct) (hx : a.eval x = .pointer (some ⟨b, k, none⟩)) (hy : a.eval y = .agg s.cs.toArray) (ht : w.there b k 9)
    (h : ∀ w', Hid (w' = w.setCells b k s.cs) → wpList Try.prog ops Q rest (a.put o.dst undef) w') : wpList Try.prog ops Q (o :: rest) a w :=
  wpList_store_mid hgd _ x y ho b k s.cs.toArray hx hy ht sizeAct (all_one s.one) (h _ rfl)
theorem new_act {w w' : World} {x : UAct} (h : w' = (w.alloc (.cells zact.cs.toArray 51)).setCells w.heap.size 0 x.cs) : Blk w' w.heap.size 51 x.cs.toArray ∧ Below w.heap.size w w' := by
  subst h
  exact ⟨(Blk.new w _ _).setAll _ rfl, Below.setCells _ (Nat.le_refl _) _ _ ((Below.refl _ _).alloc (Nat.le_refl _) _)⟩
theorem Blk.actU {w : World} {g : Nat} {t : TypeId} {a : UAct} (h : Blk w g t a.cs.toArray) : w.rangeAt g 0 a.u.cs := h.range 0 _ fun j v hv => by
  rw [Nat.zero_add, List.getElem?_toArray, UAct.cs, List.getElem?_append_left (List.getElem?_eq_some_iff.1 hv).1]
  exact hv
theorem Blk.actF {w : World} {g : Nat} {t : TypeId} {a : UAct} (h : Blk w g t a.cs.toArray) : w.cell? ⟨g, 7, none⟩ = some (.int .i64 a.brk) ∧ w.cell? ⟨g, 8, none⟩ = some (.slice a.ka a.keep.length a.kc) := ⟨h.cell 7, h.cell 8⟩
/-- A block of the law's own. -/
structure Kp (w : World) (D : Dev) (pv : Value) (g : Nat) (t : TypeId) (cs : Array Value) : Prop where
  blk : Blk w g t cs
  far : ¬ D.own pv g
section
variable {w w' : World} {D : Dev} {pv pv' : Value} {g : Nat} {t : TypeId} {cs : Array Value}
theorem Kp.goes (h : Kp w D pv g t cs) (k : Goes D w pv w' pv') : Kp w' D pv' g t cs := ⟨h.1.chg k.chg h.2, k.own h.1.lt h.2⟩
theorem Kp.below (h : Kp w D pv g t cs) (hb : Below w.heap.size w w') : Kp w' D pv g t cs := h.goes (Goes.of_below D pv hb)
end
/-- append([]bool{}, l...): a copy, in no block of a device's. -/
theorem infoBool : (Try.prog.info? 4).map (fun i => (i.zero, i.size, i.bytes)) = some (some (.bool false), 1, 1) := by kernel_rfl
theorem app_bools {ops : Array Oper} {rest : List Oper} {o : Oper} {a : Act} {w : World} {Q : Exit → Act → World → Prop} (hgd : o.guard = none) (s x : Nat)
    (ho : o.op = .call { callee := .builtin .append, args := #[.tmp s, .tmp x], argTypes := #[49, 49] })
    (hs : a.eval (.tmp s) = .slice (some ⟨w.heap.size, 0, none⟩) 0 0) (B : Nat) (A : Option Addr) (c : Nat) (l : List Bool)
    (hx : a.eval (.tmp x) = .slice A l.length c) (hr : Rd (w.alloc (.cells #[] 4)) B A (bls l)) (hn : l.length ≤ 140737488351232)
    (h : ∀ A' c' w', Hid ((∀ D pv, (∀ k, Dev.own D pv k → k < w.heap.size) → RdK w' D pv A' l) ∧ Below w.heap.size w w') → wpList Try.prog ops Q rest (a.put o.dst (.slice A' l.length c')) w') :
    wpList Try.prog ops Q (o :: rest) a (w.alloc (.cells #[] 4)) := by
  have hE : (w.alloc (.cells #[] 4)).ownsRow w.heap.size 4 1 (.slice (some ⟨w.heap.size, 0, none⟩) 0 0) 0 [] := World.ownsRow_lit (base := w.heap.size) (e := 4) (size := 1) w #[] 0 (Nat.le_refl _) (by simp [maxLen]) rfl
  refine app_all Try.underlying49 infoBool rfl hgd s x ho w.heap.size _ 0 [] hs hE B A l.length c (bls l) hx (bls_len l) hr (bls_one l) (by simp) (by omega) (by omega) ?_
  intro v' w' h1 h2
  simp only [Nat.zero_add, List.nil_append] at h1
  obtain ⟨A', c', rfl, hX, hc⟩ := own_rd h1
  refine h A' c' w' ⟨fun D pv hD hn => ?_, below_own ((Below.refl _ _).alloc (Nat.le_refl _) _) hE (Nat.le_refl _) (by simp) h2⟩
  obtain ⟨b, off, rfl, hb, hc⟩ := hX (by rw [bls_len]; exact hn)
  refine ⟨b, off, rfl, hb, fun hd => ?_, fun j hj => hc j _ (by simp [bls, hj])⟩
  have h3 := (h1.lt b rfl).1
  have h4 := hD b hd
  omega

/-! ### The mathematics of a round -/
theorem ring_counts {n : Nat} {s : St} (h : Ring n s) (k : Nat) : Ring n (s.counts k) := by
  obtain ⟨h1, h2, h3, h4, h5⟩ := counts_like s k
  exact ⟨h1.trans h.dead, by rw [h4]; exact h.left, h3.trans h.pend, by rw [h2, h5]; exact h.same, by rw [h5]; exact h.len⟩
theorem turn_best {st : St} {now u : Ub} (hR : Ring 8 st) (hb : bestO 8 st = some now) (hu : rightU u = true) (ht : u.txg = now.txg + 1) (b : Int) (ks : List Bool) :
    Ring 8 ((({ st with left := b } : St).commit 8 u).1.crash ks) ∧ (({ st with left := b } : St).commit 8 u).1.pend.length ≤ 1 ∧
      ((bestO 8 ((({ st with left := b } : St).commit 8 u).1.crash ks) = some now ∧ (({ st with left := b } : St).commit 8 u).2 ≠ 0) ∨ bestO 8 ((({ st with left := b } : St).commit 8 u).1.crash ks) = some u) := by
  have hs4 := slotU_lt u
  obtain ⟨h1, h2, h3⟩ := commit_crash (s := { st with left := b }) (n := 8) (u := u) hR.pend hR.len hu (by omega) ks
  refine ⟨h1, h2, ?_⟩
  rcases h3 with ⟨e, hne⟩ | e
  · left
    refine ⟨?_, hne⟩
    have hl := listF_like (n := 8) (h1.dead.trans hR.dead.symm) (h1.same.trans (e.trans hR.same.symm))
    unfold bestO at hb ⊢
    rw [hl]
    exact hb
  · right
    have hnw : ((({ st with left := b } : St).commit 8 u).1.crash ks).nw = st.nw.set (slotU u) (secU u) := by
      rw [h1.same, e, hR.same]
    refine best_is (list_mem.2 ?_) fun x hx => ?_
    · rw [ring_set hR h1 hu (by omega) hs4 hnw, if_pos rfl]
    · have hx' := list_mem.1 hx
      rw [ring_set hR h1 hu (by omega) (slotU_lt x) hnw] at hx'
      split at hx'
      · simp only [Option.some.injEq] at hx'
        rw [hx']
        exact Nat.le_refl _
      · have := best_max hb x (list_mem.2 hx')
        omega
def sm5 : Ub := smallU 5 (by omega)
theorem sm5_r : rightU sm5 = true := small_right 5 _ (by omega)
theorem start5 : ((newSt 8).commit 8 sm5).2 = 0 ∧ Ring 8 ((newSt 8).commit 8 sm5).1 ∧ bestO 8 ((newSt 8).commit 8 sm5).1 = some sm5 := by
  obtain ⟨h1, h2, h3⟩ := ring_commit (ring_new 8) sm5_r (by decide)
  refine ⟨h1, h2, best_is (list_mem.2 ?_) fun x hx => ?_⟩
  · rw [ring_set (ring_new 8) h2 sm5_r (by omega) (slotU_lt _) h3, if_pos rfl]
  · have hx' := list_mem.1 hx
    rw [ring_set (ring_new 8) h2 sm5_r (by omega) (slotU_lt x) h3] at hx'
    split at hx'
    · simp only [Option.some.injEq] at hx'
      rw [hx']
      exact Nat.le_refl _
    · rw [new_slot 8 _ (by have := slotU_lt x; omega)] at hx'
      cases hx'
def withT (u : Ub) (n : Nat) (hn : n < 18446744073709551616) : Ub := { u with txg := n, hu := ⟨hn, u.hu.2⟩ }
end Go.Proofs.Ytegcknloemgndaa
