/- Of ubers and their sectors there and back; of the ring as plain data; of calm devices: plain mathematics. -/
import Derived.Test.YtegcknloemgndaaU10
set_option maxRecDepth 10000
namespace Go.Proofs.Ytegcknloemgndaa
open Go.RowKit

/-! ### There and back -/
theorem mid {P x R L : List UInt8} {k m : Nat} (h : L = P ++ (x ++ R)) (hk : P.length = k) (hm : x.length = m) : (L.drop k).take m = x := by
  subst h hk hm
  rw [List.drop_left' rfl, List.take_left' rfl]
section
variable (u : Ub)
theorem sec_txg : ∃ R, (secU u).l = magicL ++ (bytesF 8 u.txg ++ R) := ⟨_, by simp only [secU, headU, frontU, List.append_assoc]; rfl⟩
theorem sec_stamp : ∃ R, (secU u).l = (magicL ++ bytesF 8 u.txg) ++ (bytesF 8 u.stamp ++ R) := ⟨_, by simp only [secU, headU, frontU, List.append_assoc]; rfl⟩
theorem sec_table : ∃ R, (secU u).l = (magicL ++ (bytesF 8 u.txg ++ bytesF 8 u.stamp)) ++ (ptrBytes u.at_.toNat u.birth u.sum ++ R) := ⟨_, by simp only [secU, headU, frontU, List.append_assoc]; rfl⟩
theorem sec_len : ∃ R, (secU u).l = (magicL ++ (bytesF 8 u.txg ++ (bytesF 8 u.stamp ++ ptrBytes u.at_.toNat u.birth u.sum))) ++ (bytesF 4 u.len.toNat ++ R) := ⟨_, by simp only [secU, headU, frontU, List.append_assoc]; rfl⟩
theorem sec_secs : ∃ R, (secU u).l = (magicL ++ (bytesF 8 u.txg ++ (bytesF 8 u.stamp ++ (ptrBytes u.at_.toNat u.birth u.sum ++ bytesF 4 u.len.toNat)))) ++ (bytesF 4 u.secs.toNat ++ R) := ⟨_, by simp only [secU, headU, frontU, List.append_assoc]; rfl⟩
theorem parts_sec (h : okU u) : partsU (secU u) = u := by
  have hu := u.hu
  have e0 : txgN (secU u) = u.txg := by
    obtain ⟨R, hR⟩ := sec_txg u
    unfold txgN
    rw [mid hR (by simp [magicL]) (bytesF_len _ _), numF_bytesF, Nat.mod_eq_of_lt (by omega)]
  have e1 : stmN (secU u) = u.stamp := by
    obtain ⟨R, hR⟩ := sec_stamp u
    unfold stmN
    rw [mid hR (by simp [magicL, bytesF_len]) (bytesF_len _ _), numF_bytesF, Nat.mod_eq_of_lt (by omega)]
  have e2 : tabL (secU u) = ptrBytes u.at_.toNat u.birth u.sum := by
    obtain ⟨R, hR⟩ := sec_table u
    unfold tabL
    rw [mid hR (by simp [magicL, bytesF_len]) (ptrBytes_len _ _ _)]
  have e3 : lenN (secU u) = u.len.toNat := by
    obtain ⟨R, hR⟩ := sec_len u
    unfold lenN
    rw [mid hR (by simp [magicL, bytesF_len, ptrBytes_len]) (bytesF_len _ _), numF_bytesF, Nat.mod_eq_of_lt (by have := h.2.2.2.1; omega)]
  have e4 : secN (secU u) = u.secs.toNat := by
    obtain ⟨R, hR⟩ := sec_secs u
    unfold secN
    rw [mid hR (by simp [magicL, bytesF_len, ptrBytes_len]) (bytesF_len _ _), numF_bytesF, Nat.mod_eq_of_lt (by have := h.2.2.2.2; omega)]
  have hr := ok_right h
  have hb := back_ptr (isPtr u) hr
  have e5 : bsF u.at_ u.birth u.sum = ptrBytes u.at_.toNat u.birth u.sum := by unfold bsF; rw [if_pos hr]; simp
  rw [e5, ← e2] at hb
  refine Ub.eq e0 e1 hb.2.1 ?_ ?_ ?_ ?_
  · show (rdB (tabL (secU u))).toNat = _
    rw [hb.2.2.1]
    simp
  · show (rdS (tabL (secU u))).toNat = _
    rw [hb.2.2.2.1]
    simp
  · show (lenN (secU u) : Int) = _
    rw [e3]
    have := h.2.2.2.1
    omega
  · show (secN (secU u) : Int) = _
    rw [e4]
    have := h.2.2.2.2
    omega
theorem readB_sec (h : rightU u = true) : readB (secU u) = true := by
  unfold readB
  rw [parts_sec u (ok_of h), h, Sec.same_self]
  rfl
theorem readV_sec (h : rightU u = true) : readV (secU u) = u := by
  unfold readV
  rw [if_pos (readB_sec u h), parts_sec u (ok_of h)]
end
theorem secU_inj {u v : Ub} (hu : rightU u = true) (hv : rightU v = true) (h : secU u = secU v) : u = v := by
  rw [← readV_sec u hu, h, readV_sec v hv]
theorem readV_right {s : Sec} (h : readB s = true) : rightU (readV s) = true := by
  unfold readV
  rw [if_pos h]
  unfold readB at h
  rw [Bool.and_eq_true] at h
  exact h.1

/-! ### The ring -/
theorem slots_mem {n k : Nat} {s : St} {u : Ub} : u ∈ slotsF n s k ↔ ∃ i, i < k ∧ slotF n s i = some u := by
  unfold slotsF
  rw [List.mem_filterMap]
  constructor
  · rintro ⟨i, hi, h⟩
    exact ⟨i, List.mem_range.1 hi, h⟩
  · rintro ⟨i, hi, h⟩
    exact ⟨i, List.mem_range.2 hi, h⟩
theorem slotU_lt (u : Ub) : slotU u < 4 := Nat.mod_lt _ (by omega)
theorem list_mem {n : Nat} {s : St} {u : Ub} : u ∈ listF n s ↔ slotF n s (slotU u) = some u := by
  unfold listF
  rw [(sortUs_perm _).mem_iff, slots_mem]
  constructor
  · rintro ⟨i, _, h⟩
    rwa [slot_of h]
  · intro h
    exact ⟨_, slotU_lt u, h⟩
theorem slot_right {n i : Nat} {s : St} {u : Ub} (h : slotF n s i = some u) : rightU u = true := by
  unfold slotF at h
  split at h
  · rename_i hc
    simp only [Option.some.injEq] at h
    rw [← h]
    exact readV_right hc.2.1
  · cases h
theorem list_sorted (n : Nat) (s : St) : (listF n s).Pairwise lessU := sortUs_sorted _
/-- The best is one that is there and above which there is none. -/
theorem best_is {n : Nat} {s : St} {v : Ub} (h : v ∈ listF n s) (hm : ∀ x ∈ listF n s, x.txg ≤ v.txg) : bestO n s = some v := by
  unfold bestO
  have hne : listF n s ≠ [] := List.ne_nil_of_mem h
  rw [List.getLast?_eq_some_getLast hne]
  have hl := List.getLast_mem hne
  congr 1
  have h1 := hm _ hl
  have h2 : v.txg ≤ ((listF n s).getLast hne).txg := by
    obtain ⟨i, hi, rfl⟩ := List.getElem_of_mem h
    rw [List.getLast_eq_getElem]
    by_cases hc : i = (listF n s).length - 1
    · subst hc; exact Nat.le_refl _
    · exact List.pairwise_iff_getElem.1 (list_sorted n s) i _ hi (by omega) (by omega)
  have ha := (sortUs_perm _).mem_iff.1 hl
  have hb := (sortUs_perm _).mem_iff.1 h
  exact slots_only n s 4 _ ha _ hb (by omega)
theorem best_mem {n : Nat} {s : St} {v : Ub} (h : bestO n s = some v) : v ∈ listF n s := List.mem_of_getLast? h
theorem best_max {n : Nat} {s : St} {v : Ub} (h : bestO n s = some v) : ∀ x ∈ listF n s, x.txg ≤ v.txg := by
  intro x hx
  unfold bestO at h
  have hne : listF n s ≠ [] := List.ne_nil_of_mem hx
  rw [List.getLast?_eq_some_getLast hne, Option.some.injEq] at h
  rw [← h]
  obtain ⟨i, hi, rfl⟩ := List.getElem_of_mem hx
  rw [List.getLast_eq_getElem]
  by_cases hc : i = (listF n s).length - 1
  · subst hc; exact Nat.le_refl _
  · exact List.pairwise_iff_getElem.1 (list_sorted n s) i _ hi (by omega) (by omega)
theorem slotF_like {n : Nat} {s t : St} (h1 : s.dead = t.dead) (h2 : s.nw = t.nw) : slotF n s = slotF n t := by
  funext i
  unfold slotF St.read
  rw [h1, h2]
theorem listF_like {n : Nat} {s t : St} (h1 : s.dead = t.dead) (h2 : s.nw = t.nw) : listF n s = listF n t := by
  unfold listF slotsF
  rw [slotF_like h1 h2]
theorem counts_like (s : St) : ∀ k, (s.counts k).dead = s.dead ∧ (s.counts k).nw = s.nw ∧ (s.counts k).pend = s.pend ∧ (s.counts k).left = s.left ∧ (s.counts k).st = s.st
  | 0 => ⟨rfl, rfl, rfl, rfl, rfl⟩
  | k + 1 => counts_like s k
theorem list_counts (n : Nat) (s : St) (k : Nat) : listF n (s.counts k) = listF n s := listF_like (counts_like s k).1 (counts_like s k).2.1
theorem best_counts (n : Nat) (s : St) (k : Nat) : bestO n (s.counts k) = bestO n s := by unfold bestO; rw [list_counts]
/-- What a sector that is there tells. -/
def tellF (x : Sec) (i : Nat) : Option Ub := if readB x = true ∧ slotU (readV x) = i then some (readV x) else none
theorem slot_tell {n : Nat} {s : St} {i : Nat} (hd : s.dead = false) (hi : i < n) : slotF n s i = tellF (s.nw.getD i zsec) i := by
  have hf : hasF n (i : Int) = true := by unfold hasF; rw [decide_eq_true_iff]; omega
  have hr : s.read n i = (s.nw.getD i zsec, 0) := by
    unfold St.read
    rw [if_pos hf, if_neg (by rw [hd]; simp), Int.toNat_natCast]
  unfold slotF tellF
  rw [hr]
  generalize s.nw.getD i zsec = x
  simp
theorem slot_dead {n : Nat} {s : St} {i : Nat} (hd : s.dead = true) : slotF n s i = none := by
  have hr : (s.read n i).2 ≠ 0 := by
    unfold St.read
    rw [if_pos hd]
    split
    · exact show ¬ (42 : Int) = 0 by decide
    · exact show ¬ (41 : Int) = 0 by decide
  unfold slotF
  exact if_neg fun h => hr h.1
theorem tell_sec {u : Ub} (h : rightU u = true) : tellF (secU u) (slotU u) = some u := by
  unfold tellF
  rw [readV_sec u h]
  exact if_pos ⟨readB_sec u h, rfl⟩
theorem read_zero : readB zsec = false := by
  rcases h : readB zsec with _ | _
  · rfl
  · unfold readB at h
    rw [Bool.and_eq_true] at h
    have := (ok_of h.1).1.1
    have e : (partsU zsec).txg = 0 := by decide
    omega
theorem tell_zero (i : Nat) : tellF zsec i = none := by
  unfold tellF
  rw [read_zero]
  exact if_neg (by simp)
/-! ### Devices -/
theorem getD_set (l : List Sec) (i j : Nat) (x : Sec) (hj : j < l.length) : (l.set i x).getD j zsec = if i = j then x else l.getD j zsec := by
  by_cases h : i = j
  · subst h
    rw [if_pos rfl]
    simp [List.getD, hj]
  · rw [if_neg h]
    simp [List.getD, List.getElem?_set_ne h]
theorem calm_refuse {s : St} (hl : s.left < 0) : s.refuse = s := by
  unfold St.refuse
  rw [if_neg (by omega), if_neg (by omega)]
theorem calm_write {s : St} {n : Nat} (hl : s.left < 0) (hd : s.dead = false) (i : Int) (x : Sec) (h : hasF n i = true) : s.write n i x = ({ s.count with nw := s.nw.set i.toNat x, pend := s.pend ++ [(i.toNat, x)] }, 0) := by
  have hc : s.count.refuse = s.count := calm_refuse (s := s.count) hl
  unfold St.write
  rw [if_pos h, hc, if_neg (by show ¬ s.dead = true; rw [hd]; simp)]
theorem no_write {s : St} {n : Nat} (i : Int) (x : Sec) (h : ¬ hasF n i = true) : s.write n i x = (s.count, 41) := by
  unfold St.write
  rw [if_neg h]
theorem calm_flush {s : St} (hl : s.left < 0) (hd : s.dead = false) : s.flush = ({ s.count with st := applyF s.pend s.st, pend := [] }, 0) := by
  have hc : s.count.refuse = s.count := calm_refuse (s := s.count) hl
  unfold St.flush
  rw [hc, if_neg (by show ¬ s.dead = true; rw [hd]; simp)]
theorem do_rot {s : St} {n : Nat} (i : Int) (x : Sec) (h : hasF n i = true) : s.rot n i x = ({ s with st := s.st.set i.toNat x, nw := s.nw.set i.toNat x, pend := rotP i.toNat x s.pend }, 0) := by
  unfold St.rot
  rw [if_pos h]
theorem no_rot {s : St} {n : Nat} (i : Int) (x : Sec) (h : ¬ hasF n i = true) : s.rot n i x = (s, 41) := by
  unfold St.rot
  rw [if_neg h]
/-- A device at rest. -/
structure Ring (n : Nat) (s : St) : Prop where
  dead : s.dead = false
  left : s.left < 0
  pend : s.pend = []
  same : s.nw = s.st
  len : s.st.length = n
theorem flush_pow {s : St} : (s.flush.2 = 42 ∧ s.flush.1.st = s.st ∧ s.flush.1.nw = s.nw ∧ s.flush.1.pend = s.pend) ∨
    (s.flush.2 = 0 ∧ s.flush.1.dead = false ∧ s.flush.1.nw = s.nw ∧ s.flush.1.st = applyF s.pend s.st ∧ s.flush.1.pend = []) := by
  obtain ⟨h1, h2, h3, _⟩ := refuse_st s.count
  unfold St.flush
  rcases h : s.count.refuse.dead with _ | _
  · rw [if_neg (by simp)]
    exact .inr ⟨rfl, h, h2, rfl, rfl⟩
  · rw [if_pos rfl]
    exact .inl ⟨rfl, h1, h2, h3⟩
theorem write_pow {s : St} {n i : Nat} {x : Sec} (hf : i < n) : ((s.write n i x).2 = 42 ∧ (s.write n i x).1.st = s.st ∧ (s.write n i x).1.nw = s.nw ∧ (s.write n i x).1.pend = s.pend) ∨
    ((s.write n i x).2 = 0 ∧ (s.write n i x).1.dead = false ∧ (s.write n i x).1.nw = s.nw.set i x ∧ (s.write n i x).1.st = s.st ∧ (s.write n i x).1.pend = s.pend ++ [(i, x)]) := by
  obtain ⟨h1, h2, h3, _⟩ := refuse_st s.count
  have hh : hasF n (i : Int) = true := by unfold hasF; rw [decide_eq_true_iff]; omega
  unfold St.write
  rw [if_pos hh]
  rcases h : s.count.refuse.dead with _ | _
  · rw [if_neg (by simp)]
    exact .inr ⟨rfl, h, rfl, h1, rfl⟩
  · rw [if_pos rfl]
    exact .inl ⟨rfl, h1, h2, h3⟩
theorem crash_none {s : St} (ks : List Bool) (h : s.pend = []) : (s.crash ks).st = s.st ∧ (s.crash ks).nw = s.st := by
  unfold St.crash
  rw [h]
  exact ⟨rfl, rfl⟩
theorem crash_one {s : St} (ks : List Bool) {i : Nat} {x : Sec} (h : s.pend = [(i, x)]) : (s.crash ks).nw = (s.crash ks).st ∧ ((s.crash ks).st = s.st ∨ (s.crash ks).st = s.st.set i x) := by
  refine ⟨rfl, ?_⟩
  show applyK ks s.pend.zipIdx s.st = _ ∨ applyK ks s.pend.zipIdx s.st = _
  rw [h]
  simp only [List.zipIdx_cons, List.zipIdx_nil, applyK, List.foldl_cons, List.foldl_nil]
  split
  · exact .inr rfl
  · exact .inl rfl
/-- A commit whose power may go, and a crash: as ahead, or the new one is there. -/
theorem commit_crash {s : St} {n : Nat} {u : Ub} (hp : s.pend = []) (hn : s.st.length = n) (hr : rightU u = true) (hu : slotU u < n) (ks : List Bool) :
    Ring n ((s.commit n u).1.crash ks) ∧ (s.commit n u).1.pend.length ≤ 1 ∧ ((((s.commit n u).1.crash ks).st = s.st ∧ (s.commit n u).2 ≠ 0) ∨ ((s.commit n u).1.crash ks).st = s.st.set (slotU u) (secU u)) := by
  have e : s.commit n u = if s.flush.2 = 0 then (if (s.flush.1.write n (slotU u) (secU u)).2 = 0 then (s.flush.1.write n (slotU u) (secU u)).1.flush else s.flush.1.write n (slotU u) (secU u)) else s.flush := if_pos hr
  have ring : ∀ t : St, t.st.length = n → (t.crash ks).nw = (t.crash ks).st → (t.crash ks).st.length = n → Ring n (t.crash ks) := fun t _ h h2 => ⟨rfl, (by show (-1 : Int) < 0; omega), rfl, h, h2⟩
  rw [e]
  clear e
  rcases flush_pow (s := s) with ⟨h1, h2, h3, h4⟩ | ⟨h1, h2, h3, h4, h5⟩
  · rw [if_neg (by rw [h1]; decide)]
    obtain ⟨c1, c2⟩ := crash_none ks (h4.trans hp)
    refine ⟨ring _ (by rw [h2, hn]) (c2.trans c1.symm) (by rw [c1, h2, hn]), by rw [h4, hp]; simp, .inl ⟨c1.trans h2, by rw [h1]; decide⟩⟩
  · rw [if_pos h1]
    have h4' : s.flush.1.st = s.st := by rw [h4, hp]; rfl
    generalize s.flush.1 = s3 at *
    rcases write_pow (s := s3) (x := secU u) hu with ⟨g1, g2, g3, g4⟩ | ⟨g1, g2, g3, g4, g5⟩
    · rw [if_neg (by rw [g1]; decide)]
      obtain ⟨c1, c2⟩ := crash_none ks (g4.trans h5)
      refine ⟨ring _ (by rw [g2, h4', hn]) (c2.trans c1.symm) (by rw [c1, g2, h4', hn]), by rw [g4, h5]; simp, .inl ⟨c1.trans (g2.trans h4'), by rw [g1]; decide⟩⟩
    · rw [if_pos g1]
      have g4' := g4.trans h4'
      rw [h5, List.nil_append] at g5
      generalize (s3.write n (slotU u) (secU u)).1 = s4 at *
      rcases flush_pow (s := s4) with ⟨f1, f2, f3, f4⟩ | ⟨f1, f2, f3, f4, f5⟩
      · obtain ⟨c1, c2⟩ := crash_one ks (f4.trans g5)
        refine ⟨ring _ (by rw [f2, g4', hn]) c1 ?_, by rw [f4, g5]; simp, ?_⟩
        · rcases c2 with c2 | c2
          · rw [c2, f2, g4', hn]
          · rw [c2, List.length_set, f2, g4', hn]
        · rcases c2 with c2 | c2
          · exact .inl ⟨c2.trans (f2.trans g4'), by rw [f1]; decide⟩
          · exact .inr (by rw [c2, f2, g4'])
      · obtain ⟨c1, c2⟩ := crash_none ks f5
        have e4 : s4.flush.1.st = s.st.set (slotU u) (secU u) := by rw [f4, g5, g4']; rfl
        refine ⟨ring _ (by rw [e4, List.length_set, hn]) (c2.trans c1.symm) (by rw [c1, e4, List.length_set, hn]), by rw [f5]; simp, .inr (c1.trans e4)⟩
/-- A commit whose power doesn't go. -/
theorem ring_commit {s : St} {n : Nat} {u : Ub} (h : Ring n s) (hr : rightU u = true) (hu : slotU u < n) : (s.commit n u).2 = 0 ∧ Ring n (s.commit n u).1 ∧ (s.commit n u).1.nw = s.nw.set (slotU u) (secU u) := by
  have e : s.commit n u = if s.flush.2 = 0 then (if (s.flush.1.write n (slotU u) (secU u)).2 = 0 then (s.flush.1.write n (slotU u) (secU u)).1.flush else s.flush.1.write n (slotU u) (secU u)) else s.flush := if_pos hr
  have hh : hasF n (slotU u : Int) = true := by unfold hasF; rw [decide_eq_true_iff]; omega
  rw [e, calm_flush h.left h.dead]
  clear e
  rw [if_pos rfl, h.pend]
  have e3 := calm_write (s := { s.count with st := applyF [] s.st, pend := [] }) (n := n) h.left h.dead (slotU u) (secU u) hh
  simp only at e3 ⊢
  rw [e3, if_pos rfl]
  have e4 := calm_flush (s := { ({ s.count with st := applyF [] s.st, pend := [] } : St).count with nw := s.nw.set (slotU u) (secU u), pend := [] ++ [(slotU u, secU u)] }) h.left h.dead
  simp only [Int.toNat_natCast] at e4 ⊢
  refine ⟨congrArg Prod.snd e4, ?_, congrArg (fun q : St × Int => q.1.nw) e4⟩
  have e5 := congrArg Prod.fst e4
  simp only at e5
  refine ⟨(congrArg St.dead e5).trans h.dead, lt_of_eq_of_lt (congrArg St.left e5) h.left, congrArg St.pend e5, ?_, ?_⟩
  · refine (congrArg St.nw e5).trans (Eq.trans ?_ (congrArg St.st e5).symm)
    show s.nw.set (slotU u) (secU u) = s.st.set (slotU u) (secU u)
    rw [h.same]
  · refine (congrArg (fun t : St => t.st.length) e5).trans ?_
    show (s.st.set (slotU u) (secU u)).length = n
    rw [List.length_set, h.len]
theorem ring_new (n : Nat) : Ring n (newSt n) := ⟨rfl, (by show (-1 : Int) < 0; omega), rfl, rfl, List.length_replicate ..⟩
/-- What the ring tells of a device at rest. -/
theorem ring_slot {n i : Nat} {s : St} (h : Ring n s) (hi : i < n) : slotF n s i = tellF (s.nw.getD i zsec) i := slot_tell h.dead hi
theorem ring_set {n i : Nat} {s t : St} {u : Ub} (hs : Ring n s) (ht : Ring n t) (hr : rightU u = true) (hn : 4 ≤ n) (hi : i < 4) (h : t.nw = s.nw.set (slotU u) (secU u)) : slotF n t i = if slotU u = i then some u else slotF n s i := by
  rw [ring_slot ht (by omega), ring_slot hs (by omega), h, getD_set _ _ _ _ (by rw [hs.same, hs.len]; omega)]
  by_cases hc : slotU u = i
  · rw [if_pos hc, if_pos hc, ← hc, tell_sec hr]
  · rw [if_neg hc, if_neg hc]
end Go.Proofs.Ytegcknloemgndaa
