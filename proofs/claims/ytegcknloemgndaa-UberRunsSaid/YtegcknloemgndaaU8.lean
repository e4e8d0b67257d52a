/- Walks: List and Best. -/
import Derived.Test.YtegcknloemgndaaU7
import Derived.Test.YtegcknloemgndaaSP2
import Derived.Maps.AppendAt
set_option maxRecDepth 10000
namespace Go.Proofs.Ytegcknloemgndaa
open Go.RowKit

/-- The sort of whatever row, an empty one too. -/
theorem sort_all {w : World} {base : Nat} {v : Value} {l : List Ub} (h : w.ownsRow base 27 7 v l.length (flatU l)) (h12 : l.length ≤ 12) :
    Calls Try.prog 54 #[v, .func (.func 55) #[] #[]] w fun e w' =>
      e = .returned (.tuple #[]) ∧ ∃ A c l', v = .slice A l.length c ∧ l'.Perm l ∧ l'.Pairwise lessU ∧ Rd w' w'.heap.size A (flatU l') ∧ Chg w w' (fun k => v.ownBlock = some k) := by
  by_cases h0 : 0 < l.length
  · obtain ⟨g, cap, rfl, _, _, _⟩ := own_form h h0
    refine (sort_any h h12).mono ?_
    rintro e w' ⟨rfl, l', h1, h2, h3, h4⟩
    exact ⟨rfl, some ⟨g, 0, none⟩, cap, l', rfl, h1, h2, h3, h4.mono fun k _ hk => by rw [hk]; rfl⟩
  · obtain rfl : l = [] := List.eq_nil_of_length_eq_zero (by omega)
    obtain ⟨A, c, rfl, hr, _⟩ := own_rd h
    have hcon := AnyF.slices_SortFunc_none (P := Try.prog) sortU A c (.func (.func 55) #[] #[]) w
    change Calls Try.prog 54 _ _ _ at hcon
    refine hcon.mono ?_
    rintro e w' ⟨rfl, rfl⟩
    exact ⟨rfl, A, c, [], rfl, List.Perm.refl _, List.Pairwise.nil, hr, Chg.refl _ _⟩
/-- append of one uber. -/
theorem app_ub {ops : Array Oper} {rest : List Oper} {o : Oper} {a : Act} {w : World} {Q : Exit → Act → World → Prop} (hgd : o.guard = none) (s x : Nat)
    (ho : o.op = .call { callee := .builtin .append, args := #[.tmp s, .tmp x], argTypes := #[59, 59] })
    (base : Nat) (v : Value) (n : Nat) (xs : List Value) (hs : a.eval (.tmp s) = v) (hown : w.ownsRow base 27 7 v n xs) (u : Ub)
    (hx : a.eval (.tmp x) = .slice (some ⟨w.heap.size, 0, none⟩) 1 1) (hbase : base ≤ w.heap.size) (hn : n ≤ 1000000)
    (h : ∀ v' w', w'.ownsRow base 27 7 v' (n + 1) (xs ++ u.cs) → (w.alloc (.cells u.cs.toArray 27)).grownBy w' v.ownBlock → wpList Try.prog ops Q rest (a.put o.dst v') w') :
    wpList Try.prog ops Q (o :: rest) a (w.alloc (.cells u.cs.toArray 27)) := by
  obtain ⟨i0, hi0, hz0, hz2, hz3⟩ := info_parts infoUb
  have hcs : (Value.agg zub.cs.toArray).cells.size = 7 := rfl
  refine wpList_append_own _ hgd (.tmp s) (.tmp x) _ ho base 27 i0 _ 7 56 Try.underlying59 hi0 hz0 hz2 hz3 hcs (by omega) v n xs hs (World.ownsRow.alloc hown _)
    ⟨w.heap.size, 0, none⟩ 1 1 u.cs hx rfl (fun j v hv => by
      rw [Addr.add_mid]
      have := (ub_new w u).ubIs j v hv
      exact this) u.one (by simp only [maxLen]; omega) (by omega) (by simp; omega) ?_
  intro v' w' h1 h2 _
  exact h v' w' h1 h2
theorem ex_bslU {o : Oper} {a : Act} {w : World} (y : Operand) (ho : o.op = .buildSlice 59 1 #[(0, y)]) (p : Ub) (hy : a.eval y = .agg p.cs.toArray) :
    (execOp a.eval o).run Try.prog w = .ok (.value (.slice (some ⟨w.heap.size, 0, none⟩) 1 1)) (w.alloc (.cells p.cs.toArray 27)) := by
  have hb := run_bsl1 Try.underlying59 infoUb (by omega) (by omega) p.cs p.cs_len (.agg p.cs.toArray) rfl w
  unfold execOp
  simp only [ho, List.map_toArray, List.map_cons, List.map_nil, hy, hb, Sem.run_bind, Sem.run_pure, Result.andThen_ok]

def St.counts (s : St) : Nat → St
  | 0 => s
  | k + 1 => (s.counts k).count
theorem counts_read (s : St) (n : Nat) (i : Int) : ∀ k, (s.counts k).read n i = s.read n i
  | 0 => rfl
  | k + 1 => counts_read s n i k
/-- What a sector of the ring tells, if anything. -/
def slotF (n : Nat) (s : St) (i : Nat) : Option Ub := if (s.read n i).2 = 0 ∧ readB (s.read n i).1 = true ∧ slotU (readV (s.read n i).1) = i then some (readV (s.read n i).1) else none
def slotsF (n : Nat) (s : St) (k : Nat) : List Ub := (List.range k).filterMap (slotF n s)
def listF (n : Nat) (s : St) : List Ub := sortUs (slotsF n s 4)
theorem slots_succ (n : Nat) (s : St) (k : Nat) : slotsF n s (k + 1) = slotsF n s k ++ (slotF n s k).toList := by
  unfold slotsF
  rw [List.range_succ, List.filterMap_append]
  cases h : slotF n s k <;> simp [h]
theorem slots_len (n : Nat) (s : St) (k : Nat) : (slotsF n s k).length ≤ k := by
  have := List.length_filterMap_le (slotF n s) (List.range k)
  rwa [List.length_range] at this
theorem slot_of {n : Nat} {s : St} {i : Nat} {u : Ub} (h : slotF n s i = some u) : slotU u = i := by
  unfold slotF at h
  split at h
  · rename_i hc
    simp only [Option.some.injEq] at h
    rw [← h]
    exact hc.2.2
  · cases h
theorem slots_only (n : Nat) (s : St) (k : Nat) : ∀ a ∈ slotsF n s k, ∀ b ∈ slotsF n s k, a.txg = b.txg → a = b := by
  intro a ha b hb h
  obtain ⟨i, _, hi⟩ := List.mem_filterMap.1 ha
  obtain ⟨j, _, hj⟩ := List.mem_filterMap.1 hb
  have h1 := slot_of hi
  have h2 := slot_of hj
  have : i = j := by
    rw [← h1, ← h2]
    unfold slotU
    rw [h]
  subst this
  rw [hi] at hj
  exact Option.some.inj hj

section
variable {w : World} {B n : Nat} {D : Dev} {pv : Value} {s : St}
/-- Cells that are read, in no block of the device's. -/
def RdN (w : World) (D : Dev) (pv : Value) (A : Option Addr) (xs : List Value) : Prop :=
  0 < xs.length → ∃ b off, A = some ⟨b, off, none⟩ ∧ b < w.heap.size ∧ ¬ D.own pv b ∧ ∀ j v, xs[j]? = some v → w.cell? ⟨b, off + j, none⟩ = some v
theorem RdN.goes {w' : World} {pv' : Value} {A : Option Addr} {xs : List Value} (h : RdN w D pv A xs) (k : Goes D w pv w' pv') : RdN w' D pv' A xs := fun hn =>
  let ⟨b, off, e, hl, ho, hc⟩ := h hn
  ⟨b, off, e, Nat.lt_of_lt_of_le hl k.chg.size, k.own hl ho, fun j v hv => (k.chg.cell hl ho _).trans (hc j v hv)⟩
theorem RdN.rd {A : Option Addr} {xs : List Value} (h : RdN w D pv A xs) : Rd w w.heap.size A xs := fun hn =>
  let ⟨b, off, e, hl, _, hc⟩ := h hn
  ⟨b, off, e, hl, hc⟩
structure LInv (w wr : World) (B n : Nat) (D : Dev) (pv : Value) (s : St) (o : Value) (l : List Ub) : Prop where
  at_ : At wr B n D pv s
  goes : Goes D w pv wr pv
  own : wr.ownsRow w.heap.size 27 7 o l.length (flatU l)
  far : ∀ g, D.own pv g → g < w.heap.size
theorem LInv.step {wr wr' : World} {s' : St} {o : Value} {l : List Ub} (h : LInv w wr B n D pv s o l) (hA : At wr' B n D pv s') (hG : Goes D wr pv wr' pv) : LInv w wr' B n D pv s' o l :=
  ⟨hA, h.goes.trans hG, own_chg h.own hG.chg fun g hg hd => by have := (h.own.lt g hg).1; have := h.far g hd; omega, h.far⟩
theorem LInv.below {wr wr' : World} {o : Value} {l : List Ub} (h : LInv w wr B n D pv s o l) (hb : Below wr.heap.size wr wr') : LInv w wr' B n D pv s o l :=
  h.step (h.at_.of_below hb) (Goes.of_below D pv hb)
theorem LInv.app {wr wr' : World} {o v : Value} {l : List Ub} {u : Ub} (h : LInv w wr B n D pv s o l) (ho : wr'.ownsRow w.heap.size 27 7 v (l.length + 1) (flatU l ++ u.cs)) (hg : (wr.alloc (.cells u.cs.toArray 27)).grownBy wr' o.ownBlock) : LInv w wr' B n D pv s v (l ++ [u]) := by
  have hc : Chg wr wr' (fun k => o.ownBlock = some k) := ((Chg.refl _ _).alloc _).grown hg fun _ hk => .inl hk
  have hf : ∀ k, D.own pv k → ¬ o.ownBlock = some k := fun k hd hk => by have := (h.own.lt k hk).1; have := h.far k hd; omega
  refine ⟨h.at_.chg hc hf, ⟨h.goes.chg.trans hc fun k hk hx => ?_, h.goes.row⟩, ?_, h.far⟩
  · have := (h.own.lt k hx).1
    omega
  · rw [flatU_snoc, List.length_append]
    exact ho
end
end Go.Proofs.Ytegcknloemgndaa
