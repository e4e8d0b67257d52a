/- What the laws say of the device's states: no memory. -/
import Derived.Test.YtoacagfddbmonaaV11
import Derived.Test.YtoacagfddbmonaaEV
namespace Go.Proofs.Ytoacagfddbmonaa
open Go.RowKit

theorem getD_set (l : List Sec) (i j : Nat) (x : Sec) (hj : j < l.length) : (l.set i x).getD j zsec = if i = j then x else l.getD j zsec := by
  by_cases h : i = j
  · subst h
    rw [if_pos rfl]
    simp [List.getD, hj]
  · rw [if_neg h]
    simp [List.getD, List.getElem?_set_ne h]
/-- The writes of a sector among the pending ones, in order. -/
def sinceF (at_ : Nat) (ps : List (Nat × Sec)) : List Sec := (ps.filter fun p => p.1 == at_).map (·.2)
theorem since_snoc (at_ : Nat) (ps : List (Nat × Sec)) (i : Nat) (x : Sec) : sinceF at_ (ps ++ [(i, x)]) = if i = at_ then sinceF at_ ps ++ [x] else sinceF at_ ps := by
  unfold sinceF
  rw [List.filter_append, List.map_append]
  by_cases h : i = at_
  · rw [if_pos h]; simp [h]
  · rw [if_neg h]; simp [h]
theorem applyF_app (ps qs : List (Nat × Sec)) (l : List Sec) : applyF (ps ++ qs) l = applyF qs (applyF ps l) := List.foldl_append
theorem applyF_getD (at_ : Nat) : ∀ (ps : List (Nat × Sec)) (l : List Sec), at_ < l.length → (applyF ps l).getD at_ zsec = (sinceF at_ ps).getLast?.getD (l.getD at_ zsec)
  | [], l, _ => rfl
  | p :: ps, l, h => by
    have h1 := applyF_getD at_ ps (l.set p.1 p.2) (by rw [List.length_set]; exact h)
    rw [getD_set l p.1 at_ p.2 h] at h1
    refine Eq.trans h1 ?_
    unfold sinceF
    by_cases he : p.1 = at_
    · rw [if_pos he, List.filter_cons_of_pos (by simpa using he), List.map_cons, List.getLast?_cons]
      simp
    · rw [if_neg he, List.filter_cons_of_neg (by simpa using he)]
theorem applyK_in (at_ : Nat) (ks : List Bool) : ∀ (ps : List (Nat × Sec)) (m : Nat) (l : List Sec), at_ < l.length → (applyK ks (ps.zipIdx m) l).getD at_ zsec = l.getD at_ zsec ∨ (applyK ks (ps.zipIdx m) l).getD at_ zsec ∈ sinceF at_ ps
  | [], _, _, _ => .inl rfl
  | p :: ps, m, l, h => by
    have hl : at_ < (if ks.getD m false = true then l.set p.1 p.2 else l).length := by split <;> simpa using h
    have h1 := applyK_in at_ ks ps (m + 1) (if ks.getD m false = true then l.set p.1 p.2 else l) hl
    have e : applyK ks ((p :: ps).zipIdx m) l = applyK ks (ps.zipIdx (m + 1)) (if ks.getD m false = true then l.set p.1 p.2 else l) := rfl
    rw [e]
    rcases h1 with h1 | h1
    · rw [h1]
      split
      · rw [getD_set l p.1 at_ p.2 h]
        by_cases he : p.1 = at_
        · rw [if_pos he]
          exact .inr (by unfold sinceF; rw [List.filter_cons_of_pos (by simpa using he)]; simp)
        · rw [if_neg he]
          exact .inl rfl
      · exact .inl rfl
    · right
      unfold sinceF at h1 ⊢
      by_cases he : p.1 = at_
      · rw [List.filter_cons_of_pos (by simpa using he), List.map_cons]
        exact List.mem_cons_of_mem _ h1
      · rw [List.filter_cons_of_neg (by simpa using he)]
        exact h1
theorem applyK_all (n : Nat) : ∀ (ps : List (Nat × Sec)) (m : Nat) (l : List Sec), m + ps.length ≤ n → applyK (List.replicate n true) (ps.zipIdx m) l = applyF ps l
  | [], _, _, _ => rfl
  | p :: ps, m, l, h => by
    simp only [List.length_cons] at h
    have e : applyK (List.replicate n true) ((p :: ps).zipIdx m) l = applyK (List.replicate n true) (ps.zipIdx (m + 1)) (if (List.replicate n true).getD m false = true then l.set p.1 p.2 else l) := rfl
    have hg : (List.replicate n true).getD m false = true := by simp [List.getD, show m < n by omega]
    rw [e, if_pos hg, applyK_all n ps (m + 1) _ (by omega)]
    rfl

/-! ### A device whose power doesn't go -/
theorem calm_refuse {s : St} (hl : s.left < 0) : s.refuse = s := by
  unfold St.refuse
  rw [if_neg (by omega), if_neg (by omega)]
theorem calm_write {s : St} {n : Nat} (hl : s.left < 0) (hd : s.dead = false) (i : Int) (x : Sec) (h : hasF n i = true) : s.write n i x = ({ s.count with nw := s.nw.set i.toNat x, pend := s.pend ++ [(i.toNat, x)] }, 0) := by
  have hc : s.count.refuse = s.count := calm_refuse (s := s.count) hl
  unfold St.write
  rw [if_pos h, hc, if_neg (by show ¬ s.dead = true; rw [hd]; simp)]
theorem no_write {s : St} {n : Nat} (i : Int) (x : Sec) (h : ¬ hasF n i = true) : s.write n i x = (s.count, 41) := by
  unfold St.write
  rw [if_neg h]
theorem calm_flush {s : St} (hl : s.left < 0) (hd : s.dead = false) : s.flush = ({ s.count with st := applyF s.pend s.st, pend := [] }, 0) := by
  have hc : s.count.refuse = s.count := calm_refuse (s := s.count) hl
  unfold St.flush
  rw [hc, if_neg (by show ¬ s.dead = true; rw [hd]; simp)]
theorem do_rot {s : St} {n : Nat} (i : Int) (x : Sec) (h : hasF n i = true) : s.rot n i x = ({ s with st := s.st.set i.toNat x, nw := s.nw.set i.toNat x, pend := rotP i.toNat x s.pend }, 0) := by
  unfold St.rot
  rw [if_pos h]
theorem no_rot {s : St} {n : Nat} (i : Int) (x : Sec) (h : ¬ hasF n i = true) : s.rot n i x = (s, 41) := by
  unfold St.rot
  rw [if_neg h]
theorem has8 {i : Int} : hasF 8 i = true ↔ 0 ≤ i ∧ i < 8 := by
  unfold hasF
  rw [decide_eq_true_iff]
  simp

/-! ### What is done with a device, as it is read -/
theorem sizeAct : (Try.prog.info? 32).map (·.size) = some 131 := by kernel_rfl
theorem sizeAct' (d : Deed) : (Try.prog.info? 32).map (·.size) = some d.cs.length := by rw [Deed.cs_len]; exact sizeAct
theorem sizeAct'' (d : Deed) : (Try.prog.info? 32).map (·.size) = some d.cs.toArray.size := by rw [List.size_toArray, Deed.cs_len]; exact sizeAct
def zdeed : Deed := { kind := 0, at_ := 0, data := zsec, keep := .slice none 0 0, hk := by unfold I64; omega, ha := by unfold I64; omega, h1 := rfl }
theorem infoAct : (Try.prog.info? 32).map (fun i => (i.zero, i.size, i.bytes)) = some (some (.agg zdeed.cs.toArray), 131, 168) := by kernel_rfl
theorem zeroAct (w : World) : Sem.run Try.prog (zeroValue 32) w = .ok (.agg zdeed.cs.toArray) w := by
  obtain ⟨i, hi, hz, _, _⟩ := info_parts infoAct
  simp [zeroValue, typeInfo, hi, hz]
theorem ld_act {ops : Array Oper} {rest : List Oper} {o : Oper} {a : Act} {w : World} {Q : Exit → Act → World → Prop} (hgd : o.guard = none) (x : Operand) (ho : o.op = .load 32 x)
    (b k : Nat) (d : Deed) (hx : a.eval x = .pointer (some ⟨b, k, none⟩)) (hr : w.rangeAt b k d.cs)
    (h : wpList Try.prog ops Q rest (a.put o.dst (.agg d.cs.toArray)) w) : wpList Try.prog ops Q (o :: rest) a w :=
  wpList_load_mid hgd _ x ho b k hx d.cs _ hr Try.underlying32 rfl (sizeAct' d) h
theorem st_act {ops : Array Oper} {rest : List Oper} {o : Oper} {a : Act} {w : World} {Q : Exit → Act → World → Prop} (hgd : o.guard = none) (x y : Operand) (ho : o.op = .store 32 x y)
    (b k : Nat) (d : Deed) (hx : a.eval x = .pointer (some ⟨b, k, none⟩)) (hy : a.eval y = .agg d.cs.toArray) (ht : w.there b k 131)
    (h : ∀ w', Hid (w' = w.setCells b k d.cs) → wpList Try.prog ops Q rest (a.put o.dst undef) w') : wpList Try.prog ops Q (o :: rest) a w :=
  wpList_store_mid hgd _ x y ho b k d.cs.toArray hx hy (by rw [List.size_toArray, Deed.cs_len]; exact ht) (sizeAct'' d) (all_one d.one) (h _ rfl)
section
variable {w : World} {g : Nat} {t : TypeId} {d : Deed}
theorem Blk.actHas (h : Blk w g t d.cs.toArray) : w.there g 0 131 := h.there 0 131 (by rw [List.size_toArray, Deed.cs_len]; omega)
theorem Blk.actAll (h : Blk w g t d.cs.toArray) (e : Deed) : Blk (w.setCells g 0 e.cs) g t e.cs.toArray := h.setAll _ (by rw [List.size_toArray, Deed.cs_len, Deed.cs_len])
theorem Blk.actKind (h : Blk w g t d.cs.toArray) : w.cell? ⟨g, 0, none⟩ = some (.int .i64 d.kind) := h.cell 0
theorem Blk.actAt (h : Blk w g t d.cs.toArray) : w.cell? ⟨g, 1, none⟩ = some (.int .i64 d.at_) := h.cell 1
theorem Blk.actData (h : Blk w g t d.cs.toArray) : w.rangeAt g 2 d.data.cs := h.range 2 d.data.cs fun j v hv => by
  have e : d.cs.toArray[2 + j]? = d.cs[2 + j]? := List.getElem?_toArray ..
  have hj : j < d.data.cs.length := (List.getElem?_eq_some_iff.1 hv).1
  rw [e, Nat.add_comm]
  show (d.data.cs ++ [d.keep])[j]? = some v
  rw [List.getElem?_append_left hj]
  exact hv
end
end Go.Proofs.Ytoacagfddbmonaa
